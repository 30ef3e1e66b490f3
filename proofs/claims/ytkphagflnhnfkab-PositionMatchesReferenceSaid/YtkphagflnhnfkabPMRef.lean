/-
  PositionMatchesReference: whatever the arguments, the law returns true, and its arguments read as before. No conditions.
-/
import Derived.Test.YtkphagflnhnfkabRows
import Derived.Test.YtkphagflnhnfkabVwOpen2
import Derived.Test.YtkphagflnhnfkabVwRules6
import Derived.Test.YtkphagflnhnfkabVmSym
import Derived.WalkKit
import Derived.ProofKit
import Derived.OpenShut
import Derived.Carry
namespace Go.Proofs.Ytkphagflnhnfkab.positionMatchesReference
open Go.ChangeShapes Go.WideShapes Go.ChangeAt Go.RowKit
open Go.Vm (Facts Val Sound)
open Go.Vm2
set_option linter.unusedVariables false
set_option linter.unusedSectionVars false

theorem own : ownKnob Try.prog.godebug = none := by kernel_rfl
theorem laidOut : laidOutB Try.prog = true := by kernel_rfl
def ts : List Nat := [33, 3, 26, 40, 46, 21, 4, 38, 125, 85, 82, 53]
def tt : Go.Vm2.TT := [
  (33, ⟨(.array 33 3 1), true, 33, .agg [.int .i64 (0), .int .i64 (0), .int .i64 (0), .int .i64 (0), .int .i64 (0), .int .i64 (0), .int .i64 (0), .int .i64 (0), .int .i64 (0), .int .i64 (0), .int .i64 (0), .int .i64 (0), .int .i64 (0), .int .i64 (0), .int .i64 (0), .int .i64 (0), .int .i64 (0), .int .i64 (0), .int .i64 (0), .int .i64 (0), .int .i64 (0), .int .i64 (0), .int .i64 (0), .int .i64 (0), .int .i64 (0), .int .i64 (0), .int .i64 (0), .int .i64 (0), .int .i64 (0), .int .i64 (0), .int .i64 (0), .int .i64 (0), .int .i64 (0)], true⟩),
  (3, ⟨(.int .i64), false, 1, .int .i64 (0), true⟩),
  (26, ⟨(.int .i64), false, 1, .int .i64 (0), true⟩),
  (40, ⟨(.struct [⟨0, 1, false⟩, ⟨1, 1, false⟩, ⟨2, 1, false⟩, ⟨3, 1, false⟩, ⟨4, 1, false⟩, ⟨5, 1, false⟩, ⟨6, 1, false⟩]), true, 7, .agg [.int .i64 (0), .int .i64 (0), .int .i64 (0), .int .i64 (0), .int .i64 (0), .bool false, .nils], false⟩),
  (46, ⟨(.int .u32), false, 1, .int .u32 (0), true⟩),
  (21, ⟨(.int .i32), false, 1, .int .i32 (0), true⟩),
  (4, ⟨.bool, false, 1, .bool false, true⟩),
  (38, ⟨(.slice 125 5 48 [.str, .int .i64, .int .i64, .int .i64, .int .i64]), false, 1, .nils, true⟩),
  (125, ⟨(.struct [⟨0, 1, false⟩, ⟨1, 1, false⟩, ⟨2, 1, false⟩, ⟨3, 1, false⟩, ⟨4, 1, false⟩]), true, 5, .agg [.str [], .int .i64 (0), .int .i64 (0), .int .i64 (0), .int .i64 (0)], true⟩),
  (85, ⟨(.array 6 3 1), true, 6, .agg [.int .i64 (0), .int .i64 (0), .int .i64 (0), .int .i64 (0), .int .i64 (0), .int .i64 (0)], true⟩),
  (82, ⟨(.array 33 3 1), true, 33, .agg [.int .i64 (0), .int .i64 (0), .int .i64 (0), .int .i64 (0), .int .i64 (0), .int .i64 (0), .int .i64 (0), .int .i64 (0), .int .i64 (0), .int .i64 (0), .int .i64 (0), .int .i64 (0), .int .i64 (0), .int .i64 (0), .int .i64 (0), .int .i64 (0), .int .i64 (0), .int .i64 (0), .int .i64 (0), .int .i64 (0), .int .i64 (0), .int .i64 (0), .int .i64 (0), .int .i64 (0), .int .i64 (0), .int .i64 (0), .int .i64 (0), .int .i64 (0), .int .i64 (0), .int .i64 (0), .int .i64 (0), .int .i64 (0), .int .i64 (0)], true⟩),
  (53, ⟨(.slice 3 1 8 [.int .i64]), false, 1, .nils, true⟩)]
theorem tt_mk : mkTT Try.prog ts = some tt := by kernel_rfl
theorem head (w : World) : Calls Try.prog 18 #[] w fun e w' => e = .returned (.bool true) ∧ Below w.heap.size w w' :=
  Go.Vm.head_run (by kernel_rfl) (by kernel_rfl) (n := 1000000) (by kernel_rfl) w
instance facts : Facts := ⟨[], [18], false⟩
instance val : Val := ⟨fun _ => 0⟩
instance sound : Sound := ⟨fun f hf => (List.not_mem_nil hf).elim⟩
theorem tt_ok : TTok Try.prog tt := ttok_mk tt_mk
def body (f : Func) : Code := match f.body with | some c => c | none => .skip
set_option maxRecDepth 100000
theorem wrapS (n : Int) (h : -9000000000000000000 ≤ n ∧ n ≤ 9000000000000000000) : IntKind.i64.wrap n = n := by rw [IntKind.wrap_i64]; omega
def Ln (n : Int) : Prop := n ≥ 0 ∧ n ≤ 1000000000
instance (n : Int) : Decidable (Ln n) := inferInstanceAs (Decidable (_ ∧ _))
def Mg (n : Int) : Prop := n ≥ -1000000000 ∧ n ≤ 1000000000
instance (n : Int) : Decidable (Mg n) := inferInstanceAs (Decidable (_ ∧ _))
def Sz (n : Int) : Prop := n ≥ 0 ∧ n ≤ 100000
instance (n : Int) : Decidable (Sz n) := inferInstanceAs (Decidable (_ ∧ _))
def Pl (n : Int) : Prop := n ≥ -100000 ∧ n ≤ 100000
instance (n : Int) : Decidable (Pl n) := inferInstanceAs (Decidable (_ ∧ _))
theorem len_test (n : Int) (h : H) (K : V → H → Prop) (hK : K (.test (decide (Ln n))) h) : SemF Try.prog 50 [.int .i64 n] h K := by
  refine SemF.test ?_
  refine enter tt_ok Try.func50 (nt := 9) (cd := body Try.f50) rfl rfl rfl rfl ?_
  intro _; refine ⟨fun g => ?_, fun g => ?_⟩
  · have g := of_decide_eq_true (show decide (n ≥ 0) = true from g)
    intro _
    refine ⟨_, .inr rfl, ?_⟩
    have : decide (Ln n) = decide (n ≤ 1000000000) := by
      by_cases e : n ≤ 1000000000
      · rw [decide_eq_true e, decide_eq_true (show Ln n from ⟨g, e⟩)]
      · rw [decide_eq_false e, decide_eq_false (fun m => e m.2)]
    rw [← this]; exact hK
  · have g := of_decide_eq_false (show decide (n ≥ 0) = false from g)
    intro _
    refine ⟨false, .inl rfl, ?_⟩
    have : decide (Ln n) = false := decide_eq_false (fun m => g m.1)
    rw [← this]; exact hK
theorem rlen_test (n : Int) (h : H) (K : V → H → Prop) (hK : K (.test (decide (Ln n))) h) : SemF Try.prog 52 [.int .i64 n] h K := by
  refine SemF.test ?_
  refine enter tt_ok Try.func52 (nt := 9) (cd := body Try.f52) rfl rfl rfl rfl ?_
  intro _; refine ⟨fun g => ?_, fun g => ?_⟩
  · have g := of_decide_eq_true (show decide (n ≥ 0) = true from g)
    intro _
    refine ⟨_, .inr rfl, ?_⟩
    have : decide (Ln n) = decide (n ≤ 1000000000) := by
      by_cases e : n ≤ 1000000000
      · rw [decide_eq_true e, decide_eq_true (show Ln n from ⟨g, e⟩)]
      · rw [decide_eq_false e, decide_eq_false (fun m => e m.2)]
    rw [← this]; exact hK
  · have g := of_decide_eq_false (show decide (n ≥ 0) = false from g)
    intro _
    refine ⟨false, .inl rfl, ?_⟩
    have : decide (Ln n) = false := decide_eq_false (fun m => g m.1)
    rw [← this]; exact hK
theorem coord_test (n : Int) (h : H) (K : V → H → Prop) (hK : K (.test (decide (Mg n))) h) : SemF Try.prog 54 [.int .i64 n] h K := by
  refine SemF.test ?_
  refine enter tt_ok Try.func54 (nt := 9) (cd := body Try.f54) rfl rfl rfl rfl ?_
  intro _; refine ⟨fun g => ?_, fun g => ?_⟩
  · have g := of_decide_eq_true (show decide (n ≥ -1000000000) = true from g)
    intro _
    refine ⟨_, .inr rfl, ?_⟩
    have : decide (Mg n) = decide (n ≤ 1000000000) := by
      by_cases e : n ≤ 1000000000
      · rw [decide_eq_true e, decide_eq_true (show Mg n from ⟨g, e⟩)]
      · rw [decide_eq_false e, decide_eq_false (fun m => e m.2)]
    rw [← this]; exact hK
  · have g := of_decide_eq_false (show decide (n ≥ -1000000000) = false from g)
    intro _
    refine ⟨false, .inl rfl, ?_⟩
    have : decide (Mg n) = false := decide_eq_false (fun m => g m.1)
    rw [← this]; exact hK
theorem rcoord_test (n : Int) (h : H) (K : V → H → Prop) (hK : K (.test (decide (Mg n))) h) : SemF Try.prog 55 [.int .i64 n] h K := by
  refine SemF.test ?_
  refine enter tt_ok Try.func55 (nt := 9) (cd := body Try.f55) rfl rfl rfl rfl ?_
  intro _; refine ⟨fun g => ?_, fun g => ?_⟩
  · have g := of_decide_eq_true (show decide (n ≥ -1000000000) = true from g)
    intro _
    refine ⟨_, .inr rfl, ?_⟩
    have : decide (Mg n) = decide (n ≤ 1000000000) := by
      by_cases e : n ≤ 1000000000
      · rw [decide_eq_true e, decide_eq_true (show Mg n from ⟨g, e⟩)]
      · rw [decide_eq_false e, decide_eq_false (fun m => e m.2)]
    rw [← this]; exact hK
  · have g := of_decide_eq_false (show decide (n ≥ -1000000000) = false from g)
    intro _
    refine ⟨false, .inl rfl, ?_⟩
    have : decide (Mg n) = false := decide_eq_false (fun m => g m.1)
    rw [← this]; exact hK
theorem size_test (n : Int) (h : H) (K : V → H → Prop) (hK : K (.test (decide (Sz n))) h) : SemF Try.prog 56 [.int .i64 n] h K := by
  refine SemF.test ?_
  refine enter tt_ok Try.func56 (nt := 9) (cd := body Try.f56) rfl rfl rfl rfl ?_
  intro _; refine ⟨fun g => ?_, fun g => ?_⟩
  · have g := of_decide_eq_true (show decide (n ≥ 0) = true from g)
    intro _
    refine ⟨_, .inr rfl, ?_⟩
    have : decide (Sz n) = decide (n ≤ 100000) := by
      by_cases e : n ≤ 100000
      · rw [decide_eq_true e, decide_eq_true (show Sz n from ⟨g, e⟩)]
      · rw [decide_eq_false e, decide_eq_false (fun m => e m.2)]
    rw [← this]; exact hK
  · have g := of_decide_eq_false (show decide (n ≥ 0) = false from g)
    intro _
    refine ⟨false, .inl rfl, ?_⟩
    have : decide (Sz n) = false := decide_eq_false (fun m => g m.1)
    rw [← this]; exact hK
def SV (x : Nat → Int) : List V := [.int .i64 (x 0), .int .i64 (x 1), .int .i64 (x 2), .int .i64 (x 3), .int .i64 (x 4), .int .i64 (x 5), .int .i64 (x 6), .int .i64 (x 7), .int .i64 (x 8), .int .i64 (x 9), .int .i64 (x 10), .int .i64 (x 11), .int .i64 (x 12), .int .i64 (x 13), .int .i64 (x 14), .int .i64 (x 15), .int .i64 (x 16), .int .i64 (x 17), .int .i64 (x 18), .int .i64 (x 19), .int .i64 (x 20), .int .i64 (x 21), .int .i64 (x 22), .int .i64 (x 23), .int .i64 (x 24), .int .i64 (x 25), .int .i64 (x 26), .int .i64 (x 27), .int .i64 (x 28), .int .i64 (x 29), .int .i64 (x 30), .int .i64 (x 31), .int .i64 (x 32)]
theorem has4 (x : Nat → Int) : SemF Try.prog 67 [.agg (SV x), .int .i64 4] ⟨0, 0, []⟩ (fun v _ => v = .test (decide (Sz (x 4))) ∧ nameless v = true) := by
  refine SemF.test ?_
  refine enter tt_ok Try.func67 (nt := 15) (cd := body Try.f67) rfl rfl rfl rfl ?_
  intro _; refine ⟨fun g => ?_, fun g => ?_⟩
  · have g := of_decide_eq_true (show decide (x 4 ≥ 0) = true from g)
    intro _
    refine ⟨_, .inr rfl, ?_, rfl⟩
    have : decide (Sz (x 4)) = decide (x 4 ≤ 100000) := by
      by_cases e : x 4 ≤ 100000
      · rw [decide_eq_true e, decide_eq_true (show Sz (x 4) from ⟨g, e⟩)]
      · rw [decide_eq_false e, decide_eq_false (fun m => e m.2)]
    rw [this]
  · have g := of_decide_eq_false (show decide (x 4 ≥ 0) = false from g)
    intro _
    refine ⟨false, .inl rfl, ?_, rfl⟩
    rw [decide_eq_false (fun m : Sz (x 4) => g m.1)]
theorem has5 (x : Nat → Int) : SemF Try.prog 67 [.agg (SV x), .int .i64 5] ⟨0, 0, []⟩ (fun v _ => v = .test (decide (Sz (x 5))) ∧ nameless v = true) := by
  refine SemF.test ?_
  refine enter tt_ok Try.func67 (nt := 15) (cd := body Try.f67) rfl rfl rfl rfl ?_
  intro _; refine ⟨fun g => ?_, fun g => ?_⟩
  · have g := of_decide_eq_true (show decide (x 5 ≥ 0) = true from g)
    intro _
    refine ⟨_, .inr rfl, ?_, rfl⟩
    have : decide (Sz (x 5)) = decide (x 5 ≤ 100000) := by
      by_cases e : x 5 ≤ 100000
      · rw [decide_eq_true e, decide_eq_true (show Sz (x 5) from ⟨g, e⟩)]
      · rw [decide_eq_false e, decide_eq_false (fun m => e m.2)]
    rw [this]
  · have g := of_decide_eq_false (show decide (x 5 ≥ 0) = false from g)
    intro _
    refine ⟨false, .inl rfl, ?_, rfl⟩
    rw [decide_eq_false (fun m : Sz (x 5) => g m.1)]
theorem has6 (x : Nat → Int) : SemF Try.prog 67 [.agg (SV x), .int .i64 6] ⟨0, 0, []⟩ (fun v _ => v = .test (decide (Sz (x 6))) ∧ nameless v = true) := by
  refine SemF.test ?_
  refine enter tt_ok Try.func67 (nt := 15) (cd := body Try.f67) rfl rfl rfl rfl ?_
  intro _; refine ⟨fun g => ?_, fun g => ?_⟩
  · have g := of_decide_eq_true (show decide (x 6 ≥ 0) = true from g)
    intro _
    refine ⟨_, .inr rfl, ?_, rfl⟩
    have : decide (Sz (x 6)) = decide (x 6 ≤ 100000) := by
      by_cases e : x 6 ≤ 100000
      · rw [decide_eq_true e, decide_eq_true (show Sz (x 6) from ⟨g, e⟩)]
      · rw [decide_eq_false e, decide_eq_false (fun m => e m.2)]
    rw [this]
  · have g := of_decide_eq_false (show decide (x 6 ≥ 0) = false from g)
    intro _
    refine ⟨false, .inl rfl, ?_, rfl⟩
    rw [decide_eq_false (fun m : Sz (x 6) => g m.1)]
theorem has3 (x : Nat → Int) : SemF Try.prog 67 [.agg (SV x), .int .i64 3] ⟨0, 0, []⟩ (fun v _ => v = .test (decide (Sz (x 3))) ∧ nameless v = true) := by
  refine SemF.test ?_
  refine enter tt_ok Try.func67 (nt := 15) (cd := body Try.f67) rfl rfl rfl rfl ?_
  intro _; refine ⟨fun g => ?_, fun g => ?_⟩
  · have g := of_decide_eq_true (show decide (x 3 ≥ 0) = true from g)
    intro _
    refine ⟨_, .inr rfl, ?_, rfl⟩
    have : decide (Sz (x 3)) = decide (x 3 ≤ 100000) := by
      by_cases e : x 3 ≤ 100000
      · rw [decide_eq_true e, decide_eq_true (show Sz (x 3) from ⟨g, e⟩)]
      · rw [decide_eq_false e, decide_eq_false (fun m => e m.2)]
    rw [this]
  · have g := of_decide_eq_false (show decide (x 3 ≥ 0) = false from g)
    intro _
    refine ⟨false, .inl rfl, ?_, rfl⟩
    rw [decide_eq_false (fun m : Sz (x 3) => g m.1)]
theorem has18 (x : Nat → Int) : SemF Try.prog 68 [.agg (SV x), .int .i64 18] ⟨0, 0, []⟩ (fun v _ => v = .test (decide (Pl (x 18))) ∧ nameless v = true) := by
  refine SemF.test ?_
  refine enter tt_ok Try.func68 (nt := 15) (cd := body Try.f68) rfl rfl rfl rfl ?_
  intro _; refine ⟨fun g => ?_, fun g => ?_⟩
  · have g := of_decide_eq_true (show decide (x 18 ≥ -100000) = true from g)
    intro _
    refine ⟨_, .inr rfl, ?_, rfl⟩
    have : decide (Pl (x 18)) = decide (x 18 ≤ 100000) := by
      by_cases e : x 18 ≤ 100000
      · rw [decide_eq_true e, decide_eq_true (show Pl (x 18) from ⟨g, e⟩)]
      · rw [decide_eq_false e, decide_eq_false (fun m => e m.2)]
    rw [this]
  · have g := of_decide_eq_false (show decide (x 18 ≥ -100000) = false from g)
    intro _
    refine ⟨false, .inl rfl, ?_, rfl⟩
    rw [decide_eq_false (fun m : Pl (x 18) => g m.1)]
theorem has19 (x : Nat → Int) : SemF Try.prog 68 [.agg (SV x), .int .i64 19] ⟨0, 0, []⟩ (fun v _ => v = .test (decide (Pl (x 19))) ∧ nameless v = true) := by
  refine SemF.test ?_
  refine enter tt_ok Try.func68 (nt := 15) (cd := body Try.f68) rfl rfl rfl rfl ?_
  intro _; refine ⟨fun g => ?_, fun g => ?_⟩
  · have g := of_decide_eq_true (show decide (x 19 ≥ -100000) = true from g)
    intro _
    refine ⟨_, .inr rfl, ?_, rfl⟩
    have : decide (Pl (x 19)) = decide (x 19 ≤ 100000) := by
      by_cases e : x 19 ≤ 100000
      · rw [decide_eq_true e, decide_eq_true (show Pl (x 19) from ⟨g, e⟩)]
      · rw [decide_eq_false e, decide_eq_false (fun m => e m.2)]
    rw [this]
  · have g := of_decide_eq_false (show decide (x 19 ≥ -100000) = false from g)
    intro _
    refine ⟨false, .inl rfl, ?_, rfl⟩
    rw [decide_eq_false (fun m : Pl (x 19) => g m.1)]
theorem all4 (x : Nat → Int) : SemF Try.prog 66 [.fn 67 [.agg (SV x)] [], .slc 0 1 0 4] ⟨1, 1, [(0, .arr [.int .i64] .rd (.ints [4, 5, 6, 3]))]⟩ (fun v _ => v = .test (decide (Sz (x 4) ∧ Sz (x 5) ∧ Sz (x 6) ∧ Sz (x 3))) ∧ nameless v = true) := by
  refine SemF.test ?_
  refine enter tt_ok Try.func66 (nt := 18) (cd := body Try.f66) rfl rfl rfl rfl ?_
  intro _
  refine loop_step tt_ok ?_
  intro _; refine ⟨fun _ => ?_, fun g => absurd g (by decide)⟩
  intro _; refine ⟨by decide, ?_⟩
  intro _; refine ⟨by decide, ?_⟩
  intro _
  refine call_pure [] (has4 x) rfl rfl rfl ?_ ?_ ?_
  · (repeat' first | exact trivial | exact rfl | refine And.intro ?_ ?_)
  · (repeat' first | exact trivial | exact rfl | refine And.intro ?_ ?_)
  intro v hv _
  subst hv
  intro _; refine ⟨fun g => ?_, fun g => ?_⟩
  · have g : (!decide (Sz (x 4))) = true := g
    rw [Bool.not_eq_true'] at g
    have g := of_decide_eq_false g
    intro _
    exact ⟨false, .inl rfl, by rw [decide_eq_false (fun h : Sz (x 4) ∧ Sz (x 5) ∧ Sz (x 6) ∧ Sz (x 3) => g h.1)], rfl⟩
  have g0 : (!decide (Sz (x 4))) = false := g
  rw [Bool.not_eq_false'] at g0
  have g0 := of_decide_eq_true g0
  intro _
  refine loop_step tt_ok ?_
  intro _; refine ⟨fun _ => ?_, fun g => absurd g (by decide)⟩
  intro _; refine ⟨by decide, ?_⟩
  intro _; refine ⟨by decide, ?_⟩
  intro _
  refine call_pure [] (has5 x) rfl rfl rfl ?_ ?_ ?_
  · (repeat' first | exact trivial | exact rfl | refine And.intro ?_ ?_)
  · (repeat' first | exact trivial | exact rfl | refine And.intro ?_ ?_)
  intro v hv _
  subst hv
  intro _; refine ⟨fun g => ?_, fun g => ?_⟩
  · have g : (!decide (Sz (x 5))) = true := g
    rw [Bool.not_eq_true'] at g
    have g := of_decide_eq_false g
    intro _
    exact ⟨false, .inl rfl, by rw [decide_eq_false (fun h : Sz (x 4) ∧ Sz (x 5) ∧ Sz (x 6) ∧ Sz (x 3) => g h.2.1)], rfl⟩
  have g1 : (!decide (Sz (x 5))) = false := g
  rw [Bool.not_eq_false'] at g1
  have g1 := of_decide_eq_true g1
  intro _
  refine loop_step tt_ok ?_
  intro _; refine ⟨fun _ => ?_, fun g => absurd g (by decide)⟩
  intro _; refine ⟨by decide, ?_⟩
  intro _; refine ⟨by decide, ?_⟩
  intro _
  refine call_pure [] (has6 x) rfl rfl rfl ?_ ?_ ?_
  · (repeat' first | exact trivial | exact rfl | refine And.intro ?_ ?_)
  · (repeat' first | exact trivial | exact rfl | refine And.intro ?_ ?_)
  intro v hv _
  subst hv
  intro _; refine ⟨fun g => ?_, fun g => ?_⟩
  · have g : (!decide (Sz (x 6))) = true := g
    rw [Bool.not_eq_true'] at g
    have g := of_decide_eq_false g
    intro _
    exact ⟨false, .inl rfl, by rw [decide_eq_false (fun h : Sz (x 4) ∧ Sz (x 5) ∧ Sz (x 6) ∧ Sz (x 3) => g h.2.2.1)], rfl⟩
  have g2 : (!decide (Sz (x 6))) = false := g
  rw [Bool.not_eq_false'] at g2
  have g2 := of_decide_eq_true g2
  intro _
  refine loop_step tt_ok ?_
  intro _; refine ⟨fun _ => ?_, fun g => absurd g (by decide)⟩
  intro _; refine ⟨by decide, ?_⟩
  intro _; refine ⟨by decide, ?_⟩
  intro _
  refine call_pure [] (has3 x) rfl rfl rfl ?_ ?_ ?_
  · (repeat' first | exact trivial | exact rfl | refine And.intro ?_ ?_)
  · (repeat' first | exact trivial | exact rfl | refine And.intro ?_ ?_)
  intro v hv _
  subst hv
  intro _; refine ⟨fun g => ?_, fun g => ?_⟩
  · have g : (!decide (Sz (x 3))) = true := g
    rw [Bool.not_eq_true'] at g
    have g := of_decide_eq_false g
    intro _
    exact ⟨false, .inl rfl, by rw [decide_eq_false (fun h : Sz (x 4) ∧ Sz (x 5) ∧ Sz (x 6) ∧ Sz (x 3) => g h.2.2.2)], rfl⟩
  have g3 : (!decide (Sz (x 3))) = false := g
  rw [Bool.not_eq_false'] at g3
  have g3 := of_decide_eq_true g3
  intro _
  refine loop_step tt_ok ?_
  intro _; refine ⟨fun g => absurd g (by decide), fun _ => ?_⟩
  intro _
  exact ⟨true, .inl rfl, by rw [decide_eq_true (show Sz (x 4) ∧ Sz (x 5) ∧ Sz (x 6) ∧ Sz (x 3) from ⟨g0, g1, g2, g3⟩)], rfl⟩
theorem all2 (x : Nat → Int) : SemF Try.prog 66 [.fn 68 [.agg (SV x)] [], .slc 0 1 0 2] ⟨1, 1, [(0, .arr [.int .i64] .rd (.ints [18, 19]))]⟩ (fun v _ => v = .test (decide (Pl (x 18) ∧ Pl (x 19))) ∧ nameless v = true) := by
  refine SemF.test ?_
  refine enter tt_ok Try.func66 (nt := 18) (cd := body Try.f66) rfl rfl rfl rfl ?_
  intro _
  refine loop_step tt_ok ?_
  intro _; refine ⟨fun _ => ?_, fun g => absurd g (by decide)⟩
  intro _; refine ⟨by decide, ?_⟩
  intro _; refine ⟨by decide, ?_⟩
  intro _
  refine call_pure [] (has18 x) rfl rfl rfl ?_ ?_ ?_
  · (repeat' first | exact trivial | exact rfl | refine And.intro ?_ ?_)
  · (repeat' first | exact trivial | exact rfl | refine And.intro ?_ ?_)
  intro v hv _
  subst hv
  intro _; refine ⟨fun g => ?_, fun g => ?_⟩
  · have g : (!decide (Pl (x 18))) = true := g
    rw [Bool.not_eq_true'] at g
    have g := of_decide_eq_false g
    intro _
    exact ⟨false, .inl rfl, by rw [decide_eq_false (fun h : Pl (x 18) ∧ Pl (x 19) => g h.1)], rfl⟩
  have g0 : (!decide (Pl (x 18))) = false := g
  rw [Bool.not_eq_false'] at g0
  have g0 := of_decide_eq_true g0
  intro _
  refine loop_step tt_ok ?_
  intro _; refine ⟨fun _ => ?_, fun g => absurd g (by decide)⟩
  intro _; refine ⟨by decide, ?_⟩
  intro _; refine ⟨by decide, ?_⟩
  intro _
  refine call_pure [] (has19 x) rfl rfl rfl ?_ ?_ ?_
  · (repeat' first | exact trivial | exact rfl | refine And.intro ?_ ?_)
  · (repeat' first | exact trivial | exact rfl | refine And.intro ?_ ?_)
  intro v hv _
  subst hv
  intro _; refine ⟨fun g => ?_, fun g => ?_⟩
  · have g : (!decide (Pl (x 19))) = true := g
    rw [Bool.not_eq_true'] at g
    have g := of_decide_eq_false g
    intro _
    exact ⟨false, .inl rfl, by rw [decide_eq_false (fun h : Pl (x 18) ∧ Pl (x 19) => g h.2)], rfl⟩
  have g1 : (!decide (Pl (x 19))) = false := g
  rw [Bool.not_eq_false'] at g1
  have g1 := of_decide_eq_true g1
  intro _
  refine loop_step tt_ok ?_
  intro _; refine ⟨fun g => absurd g (by decide), fun _ => ?_⟩
  intro _
  exact ⟨true, .inl rfl, by rw [decide_eq_true (show Pl (x 18) ∧ Pl (x 19) from ⟨g0, g1⟩)], rfl⟩
def RS (x : Nat → Int) : Prop := (Sz (x 4) ∧ Sz (x 5) ∧ Sz (x 6) ∧ Sz (x 3)) ∧ (Pl (x 18) ∧ Pl (x 19))
instance (x : Nat → Int) : Decidable (RS x) := inferInstanceAs (Decidable (_ ∧ _))
theorem right_ok (x : Nat → Int) : SemF Try.prog 49 [.agg (SV x)] ⟨0, 0, []⟩ (fun v _ => v = .test (decide (RS x)) ∧ nameless v = true) := by
  refine SemF.test ?_
  refine enter tt_ok Try.func49 (nt := 16) (cd := body Try.f49) rfl rfl rfl rfl ?_
  intro _
  refine call_pure [(0, some 1)] (all4 x) rfl rfl rfl ?_ ?_ ?_
  · (repeat' first | exact trivial | exact rfl | refine And.intro ?_ ?_)
  · (repeat' first | exact trivial | exact rfl | refine And.intro ?_ ?_)
  intro v hv _
  subst hv
  intro _; refine ⟨fun g => ?_, fun g => ?_⟩
  · have g := of_decide_eq_true (show decide (Sz (x 4) ∧ Sz (x 5) ∧ Sz (x 6) ∧ Sz (x 3)) = true from g)
    intro _
    refine call_pure [(0, some 2)] (all2 x) rfl rfl rfl ?_ ?_ ?_
    · (repeat' first | exact trivial | exact rfl | refine And.intro ?_ ?_)
    · (repeat' first | exact trivial | exact rfl | refine And.intro ?_ ?_)
    intro v hv _
    subst hv
    intro _
    refine ⟨_, .inr rfl, ?_, rfl⟩
    have : decide (RS x) = decide (Pl (x 18) ∧ Pl (x 19)) := by
      by_cases e : Pl (x 18) ∧ Pl (x 19)
      · rw [decide_eq_true e, decide_eq_true (show RS x from ⟨g, e⟩)]
      · rw [decide_eq_false e, decide_eq_false (fun m : RS x => e m.2)]
    rw [this]
  · have g := of_decide_eq_false (show decide (Sz (x 4) ∧ Sz (x 5) ∧ Sz (x 6) ∧ Sz (x 3)) = false from g)
    intro _
    exact ⟨false, .inl rfl, by rw [decide_eq_false (fun m : RS x => g m.1)], rfl⟩
theorem rright_ok (x : Nat → Int) : SemF Try.prog 28 [.agg (SV x)] ⟨0, 0, []⟩ (fun v _ => v = .test (decide (RS x)) ∧ nameless v = true) := by
  refine SemF.test ?_
  refine enter tt_ok Try.func28 (nt := 43) (cd := body Try.f28) rfl rfl rfl rfl ?_
  have no : ¬ RS x → ∃ b, (V.bool false = .bool b ∨ V.bool false = .test b) ∧ (V.test b = .test (decide (RS x)) ∧ nameless (V.test b) = true) := fun h => ⟨false, .inl rfl, by rw [decide_eq_false h], rfl⟩
  intro _
  refine size_test _ _ _ ?_
  intro _; refine ⟨fun g => ?_, fun g => ?_⟩
  rotate_left
  · have g := of_decide_eq_false (show decide (Sz (x 4)) = false from g)
    intro _
    exact no (fun h => g h.1.1)
  have g4 := of_decide_eq_true (show decide (Sz (x 4)) = true from g)
  intro _
  refine size_test _ _ _ ?_
  intro _; refine ⟨fun g => ?_, fun g => ?_⟩
  rotate_left
  · have g := of_decide_eq_false (show decide (Sz (x 5)) = false from g)
    intro _
    exact no (fun h => g h.1.2.1)
  have g5 := of_decide_eq_true (show decide (Sz (x 5)) = true from g)
  intro _
  refine size_test _ _ _ ?_
  intro _; refine ⟨fun g => ?_, fun g => ?_⟩
  rotate_left
  · have g := of_decide_eq_false (show decide (Sz (x 6)) = false from g)
    intro _
    exact no (fun h => g h.1.2.2.1)
  have g6 := of_decide_eq_true (show decide (Sz (x 6)) = true from g)
  intro _
  refine size_test _ _ _ ?_
  intro _; refine ⟨fun g => ?_, fun g => ?_⟩
  rotate_left
  · have g := of_decide_eq_false (show decide (Sz (x 3)) = false from g)
    intro _
    exact no (fun h => g h.1.2.2.2)
  have g3 := of_decide_eq_true (show decide (Sz (x 3)) = true from g)
  intro _
  refine ⟨fun g => ?_, fun g => ?_⟩
  rotate_left
  · have g := of_decide_eq_false (show decide (x 18 ≥ -100000) = false from g)
    intro _
    exact no (fun h => g h.2.1.1)
  have a1 := of_decide_eq_true (show decide (x 18 ≥ -100000) = true from g)
  intro _
  refine ⟨fun g => ?_, fun g => ?_⟩
  rotate_left
  · have g := of_decide_eq_false (show decide (x 18 ≤ 100000) = false from g)
    intro _
    exact no (fun h => g h.2.1.2)
  have a2 := of_decide_eq_true (show decide (x 18 ≤ 100000) = true from g)
  intro _
  refine ⟨fun g => ?_, fun g => ?_⟩
  rotate_left
  · have g := of_decide_eq_false (show decide (x 19 ≥ -100000) = false from g)
    intro _
    exact no (fun h => g h.2.2.1)
  have a3 := of_decide_eq_true (show decide (x 19 ≥ -100000) = true from g)
  intro _
  refine ⟨_, .inr rfl, ?_, rfl⟩
  have : decide (RS x) = decide (x 19 ≤ 100000) := by
    by_cases e : x 19 ≤ 100000
    · rw [decide_eq_true e, decide_eq_true (show RS x from ⟨⟨g4, g5, g6, g3⟩, ⟨a1, a2⟩, a3, e⟩)]
    · rw [decide_eq_false e, decide_eq_false (fun m : RS x => e m.2.2.2)]
  rw [this]
def wd (x : Nat → Int) (r : Int) : Int := max (if x 6 ≠ 0 then min (if x 4 = 0 then r else x 4) (x 6) else (if x 4 = 0 then r else x 4)) (x 5)
theorem width_ok (x : Nat → Int) (r : Int) : SemF Try.prog 51 [.agg (SV x), .int .i64 r] ⟨0, 0, []⟩ (fun v _ => v = .int .i64 (wd x r) ∧ nameless v = true) := by
  refine enter tt_ok Try.func51 (nt := 22) (cd := body Try.f51) rfl rfl rfl rfl ?_
  intro _; refine ⟨fun g => ?_, fun g => ?_⟩
  · have g : (x 4 == 0) = true := g
    have g : x 4 = 0 := by simpa using g
    intro _; refine ⟨fun g2 => ?_, fun g2 => ?_⟩
    · have g2 : (x 6 != 0) = true := g2
      have g2 : x 6 ≠ 0 := by simpa using g2
      intro _
      refine ⟨?_, rfl⟩
      unfold wd; rw [if_pos g2, if_pos g]
    · have g2 : (x 6 != 0) = false := g2
      have g2 : x 6 = 0 := by simpa using g2
      intro _
      refine ⟨?_, rfl⟩
      unfold wd; rw [if_neg (fun h => h g2), if_pos g]
  · have g : (x 4 == 0) = false := g
    have g : ¬ x 4 = 0 := by simpa using g
    intro _; refine ⟨fun g2 => ?_, fun g2 => ?_⟩
    · have g2 : (x 6 != 0) = true := g2
      have g2 : x 6 ≠ 0 := by simpa using g2
      intro _
      refine ⟨?_, rfl⟩
      unfold wd; rw [if_pos g2, if_neg g]
    · have g2 : (x 6 != 0) = false := g2
      have g2 : x 6 = 0 := by simpa using g2
      intro _
      refine ⟨?_, rfl⟩
      unfold wd; rw [if_neg (fun h => h g2), if_neg g]
theorem rwidth_ok (x : Nat → Int) (r : Int) (h6 : 0 ≤ x 6) : SemF Try.prog 53 [.agg (SV x), .int .i64 r] ⟨0, 0, []⟩ (fun v _ => v = .int .i64 (wd x r) ∧ nameless v = true) := by
  refine enter tt_ok Try.func53 (nt := 22) (cd := body Try.f53) rfl rfl rfl rfl ?_
  intro _; refine ⟨fun g => ?_, fun g => ?_⟩
  · have g : (x 4 == 0) = true := g
    have g : x 4 = 0 := by simpa using g
    intro _; refine ⟨fun g2 => ?_, fun g2 => ?_⟩
    · have g2 := of_decide_eq_true (show decide (x 6 > 0) = true from g2)
      intro _
      refine ⟨?_, rfl⟩
      unfold wd; rw [if_pos (by omega), if_pos g]
    · have g2 := of_decide_eq_false (show decide (x 6 > 0) = false from g2)
      intro _
      refine ⟨?_, rfl⟩
      unfold wd; rw [if_neg (by omega), if_pos g]
  · have g : (x 4 == 0) = false := g
    have g : ¬ x 4 = 0 := by simpa using g
    intro _; refine ⟨fun g2 => ?_, fun g2 => ?_⟩
    · have g2 := of_decide_eq_true (show decide (x 6 > 0) = true from g2)
      intro _
      refine ⟨?_, rfl⟩
      unfold wd; rw [if_pos (by omega), if_neg g]
    · have g2 := of_decide_eq_false (show decide (x 6 > 0) = false from g2)
      intro _
      refine ⟨?_, rfl⟩
      unfold wd; rw [if_neg (by omega), if_neg g]
def wv (x : Nat → Int) (r : Int) : Int × Int := if RS x ∧ Ln r then (wd x r, 0) else (0, 1)
def WV (x : Nat → Int) (r : Int) : V := .tup [.int .i64 (wv x r).1, .int .i64 (wv x r).2]
theorem Width_ok (x : Nat → Int) (r : Int) : SemF Try.prog 19 [.agg (SV x), .int .i64 r] ⟨0, 0, []⟩ (fun v _ => v = WV x r ∧ nameless v = true) := by
  refine enter tt_ok Try.func19 (nt := 17) (cd := body Try.f19) rfl rfl rfl rfl ?_
  intro _
  refine call_pure [] (right_ok x) rfl rfl rfl ?_ ?_ ?_
  · (repeat' first | exact trivial | exact rfl | refine And.intro ?_ ?_)
  · (repeat' first | exact trivial | exact rfl | refine And.intro ?_ ?_)
  intro v hv _
  subst hv
  intro _; refine ⟨fun g => ?_, fun g => ?_⟩
  · have g : (!decide (RS x)) = true := g
    rw [Bool.not_eq_true'] at g
    have g := of_decide_eq_false g
    intro _
    refine ⟨?_, rfl⟩
    unfold WV wv; rw [if_neg (fun h => g h.1)]
  have g : (!decide (RS x)) = false := g
  rw [Bool.not_eq_false'] at g
  have h1 := of_decide_eq_true g
  intro _
  refine len_test _ _ _ ?_
  intro _; refine ⟨fun g => ?_, fun g => ?_⟩
  · have g : (!decide (Ln r)) = true := g
    rw [Bool.not_eq_true'] at g
    have g := of_decide_eq_false g
    intro _
    refine ⟨?_, rfl⟩
    unfold WV wv; rw [if_neg (fun h => g h.2)]
  have g : (!decide (Ln r)) = false := g
  rw [Bool.not_eq_false'] at g
  have h2 := of_decide_eq_true g
  intro _
  refine call_pure [] (width_ok x r) rfl rfl rfl ?_ ?_ ?_
  · (repeat' first | exact trivial | exact rfl | refine And.intro ?_ ?_)
  · (repeat' first | exact trivial | exact rfl | refine And.intro ?_ ?_)
  intro v hv _
  subst hv
  intro _
  refine ⟨?_, rfl⟩
  unfold WV wv; rw [if_pos ⟨h1, h2⟩]
theorem rWidth_ok (x : Nat → Int) (r : Int) : SemF Try.prog 20 [.agg (SV x), .int .i64 r] ⟨0, 0, []⟩ (fun v _ => v = WV x r ∧ nameless v = true) := by
  refine enter tt_ok Try.func20 (nt := 19) (cd := body Try.f20) rfl rfl rfl rfl ?_
  intro _
  refine call_pure [] (rright_ok x) rfl rfl rfl ?_ ?_ ?_
  · (repeat' first | exact trivial | exact rfl | refine And.intro ?_ ?_)
  · (repeat' first | exact trivial | exact rfl | refine And.intro ?_ ?_)
  intro v hv _
  subst hv
  intro _; refine ⟨fun g => ?_, fun g => ?_⟩
  · have g : (!decide (RS x)) = true := g
    rw [Bool.not_eq_true'] at g
    have g := of_decide_eq_false g
    intro _
    refine ⟨?_, rfl⟩
    unfold WV wv; rw [if_neg (fun h => g h.1)]
  have g : (!decide (RS x)) = false := g
  rw [Bool.not_eq_false'] at g
  have h1 := of_decide_eq_true g
  intro _
  refine rlen_test _ _ _ ?_
  intro _; refine ⟨fun g => ?_, fun g => ?_⟩
  · have g : (!decide (Ln r)) = true := g
    rw [Bool.not_eq_true'] at g
    have g := of_decide_eq_false g
    intro _
    refine ⟨?_, rfl⟩
    unfold WV wv; rw [if_neg (fun h => g h.2)]
  have g : (!decide (Ln r)) = false := g
  rw [Bool.not_eq_false'] at g
  have h2 := of_decide_eq_true g
  intro _
  refine call_pure [] (rwidth_ok x r h1.1.2.2.1.1) rfl rfl rfl ?_ ?_ ?_
  · (repeat' first | exact trivial | exact rfl | refine And.intro ?_ ?_)
  · (repeat' first | exact trivial | exact rfl | refine And.intro ?_ ?_)
  intro v hv _
  subst hv
  intro _
  refine ⟨?_, rfl⟩
  unfold WV wv; rw [if_pos ⟨h1, h2⟩]
def BX (a b c : Int) : V := .agg [.int .i64 0, .int .i64 a, .int .i64 b, .int .i64 c, .int .i64 0, .bool false, .nils]
def AB (x : Nat → Int) (X Y W : Int) : V := if (RS x ∧ Mg X ∧ Mg Y) ∧ Ln W then (if Mg (X + x 19) ∧ Mg (Y + x 18) then .tup [BX (X + x 19) (Y + x 18) (wd x W), .int .i64 0] else .tup [BX 0 0 0, .int .i64 3]) else .tup [BX 0 0 0, .int .i64 1]
theorem bare_ok (a b c : Int) : SemF Try.prog 25 [BX a b c] ⟨0, 0, []⟩ (fun v _ => v = .test true ∧ nameless v = true) := by
  refine SemF.test ?_
  refine enter tt_ok Try.func25 (nt := 22) (cd := body Try.f25) rfl rfl rfl rfl ?_
  intro _; refine ⟨fun _ => ?_, fun k => by exact absurd (show (true : Bool) = false from k) (by decide)⟩
  intro _; refine ⟨fun _ => ?_, fun k => by exact absurd (show (true : Bool) = false from k) (by decide)⟩
  intro _
  exact ⟨_, .inr rfl, rfl, rfl⟩
theorem abs_ok (x : Nat → Int) (X Y W : Int) : SemF Try.prog 23 [.agg (SV x), .int .i64 X, .int .i64 Y, .int .i64 W] ⟨0, 0, []⟩ (fun v _ => v = AB x X Y W ∧ nameless v = true) := by
  refine enter tt_ok Try.func23 (nt := 54) (cd := body Try.f23) rfl rfl rfl rfl ?_
  have no : ¬ ((RS x ∧ Mg X ∧ Mg Y) ∧ Ln W) → V.tup [BX 0 0 0, .int .i64 1] = AB x X Y W ∧ nameless (V.tup [BX 0 0 0, .int .i64 1]) = true := fun h => ⟨by unfold AB; rw [if_neg h], rfl⟩
  intro _
  refine call_pure [] (right_ok x) rfl rfl rfl ?_ ?_ ?_
  · (repeat' first | exact trivial | exact rfl | refine And.intro ?_ ?_)
  · (repeat' first | exact trivial | exact rfl | refine And.intro ?_ ?_)
  intro v hv _
  subst hv
  intro _; refine ⟨fun g => ?_, fun g => ?_⟩
  · have g : (!decide (RS x)) = true := g
    rw [Bool.not_eq_true'] at g
    have g := of_decide_eq_false g
    intro _
    exact no (fun h => g h.1.1)
  have g : (!decide (RS x)) = false := g
  rw [Bool.not_eq_false'] at g
  have h1 := of_decide_eq_true g
  intro _
  refine coord_test _ _ _ ?_
  intro _; refine ⟨fun g => ?_, fun g => ?_⟩
  · have g : (!decide (Mg X)) = true := g
    rw [Bool.not_eq_true'] at g
    have g := of_decide_eq_false g
    intro _
    exact no (fun h => g h.1.2.1)
  have g : (!decide (Mg X)) = false := g
  rw [Bool.not_eq_false'] at g
  have h2 := of_decide_eq_true g
  intro _
  refine coord_test _ _ _ ?_
  intro _; refine ⟨fun g => ?_, fun g => ?_⟩
  · have g : (!decide (Mg Y)) = true := g
    rw [Bool.not_eq_true'] at g
    have g := of_decide_eq_false g
    intro _
    exact no (fun h => g h.1.2.2)
  have g : (!decide (Mg Y)) = false := g
  rw [Bool.not_eq_false'] at g
  have h3 := of_decide_eq_true g
  intro _
  refine len_test _ _ _ ?_
  intro _; refine ⟨fun g => ?_, fun g => ?_⟩
  · have g : (!decide (Ln W)) = true := g
    rw [Bool.not_eq_true'] at g
    have g := of_decide_eq_false g
    intro _
    exact no (fun h => g h.2)
  have g : (!decide (Ln W)) = false := g
  rw [Bool.not_eq_false'] at g
  have h4 := of_decide_eq_true g
  have a18 := h1.2.1.1; have a18' := h1.2.1.2; have a19 := h1.2.2.1; have a19' := h1.2.2.2
  have b1 := h2.1; have b1' := h2.2; have b2 := h3.1; have b2' := h3.2
  have e1 : IntKind.i64.wrap (X + x 19) = X + x 19 := wrapS _ ⟨by omega, by omega⟩
  have e2 : IntKind.i64.wrap (Y + x 18) = Y + x 18 := wrapS _ ⟨by omega, by omega⟩
  intro _
  refine Or.inl ?_
  intro _
  refine call_pure [] (width_ok x W) rfl rfl rfl ?_ ?_ ?_
  · (repeat' first | exact trivial | exact rfl | refine And.intro ?_ ?_)
  · (repeat' first | exact trivial | exact rfl | refine And.intro ?_ ?_)
  intro v hv _
  subst hv
  intro _
  refine ⟨by kernel_rfl, ?_⟩
  intro _
  refine coord_test _ _ _ ?_
  intro _; refine ⟨fun g => ?_, fun g => ?_⟩
  · have g : (!decide (Mg (IntKind.i64.wrap (X + x 19)))) = true := g
    rw [Bool.not_eq_true', e1] at g
    have g := of_decide_eq_false g
    intro _
    refine ⟨?_, rfl⟩
    unfold AB; rw [if_pos ⟨⟨h1, h2, h3⟩, h4⟩, if_neg (fun h => g h.1)]; rfl
  have g : (!decide (Mg (IntKind.i64.wrap (X + x 19)))) = false := g
  rw [Bool.not_eq_false', e1] at g
  have h5 := of_decide_eq_true g
  intro _
  refine coord_test _ _ _ ?_
  intro _; refine ⟨fun g => ?_, fun g => ?_⟩
  · have g : (!decide (Mg (IntKind.i64.wrap (Y + x 18)))) = true := g
    rw [Bool.not_eq_true', e2] at g
    have g := of_decide_eq_false g
    intro _
    refine ⟨?_, rfl⟩
    unfold AB; rw [if_pos ⟨⟨h1, h2, h3⟩, h4⟩, if_neg (fun h => g h.2)]; rfl
  have g : (!decide (Mg (IntKind.i64.wrap (Y + x 18)))) = false := g
  rw [Bool.not_eq_false', e2] at g
  have h6 := of_decide_eq_true g
  intro _
  refine ⟨?_, rfl⟩
  unfold AB; rw [if_pos ⟨⟨h1, h2, h3⟩, h4⟩, if_pos ⟨h5, h6⟩]
  show V.tup [BX (IntKind.i64.wrap (X + x 19)) (IntKind.i64.wrap (Y + x 18)) (wd x W), V.int .i64 0] = _
  rw [e1, e2]
def SO (a b c d e f : Int) : Prop := (Ln a ∧ Ln b ∧ Ln c ∧ Ln d ∧ Ln e ∧ Ln f) ∧ ¬ c > a ∧ ¬ a + b > d
instance (a b c d e f : Int) : Decidable (SO a b c d e f) := inferInstanceAs (Decidable (_ ∧ _))
def ST (a b c d e f : Int) : V := if SO a b c d e f then .tup [.int .i64 (min (max a (f + e)) (d - b)), .int .i64 0] else .tup [.int .i64 0, .int .i64 1]
theorem stick_ok (a b c d e f : Int) : SemF Try.prog 26 [.int .i64 a, .int .i64 b, .int .i64 c, .int .i64 d, .int .i64 e, .int .i64 f] ⟨0, 0, []⟩ (fun v _ => v = ST a b c d e f ∧ nameless v = true) := by
  refine enter tt_ok Try.func26 (nt := 49) (cd := body Try.f26) rfl rfl rfl rfl ?_
  have no : ¬ SO a b c d e f → V.tup [.int .i64 0, .int .i64 1] = ST a b c d e f ∧ nameless (V.tup [.int .i64 0, .int .i64 1]) = true := fun h => ⟨by unfold ST; rw [if_neg h], rfl⟩
  intro _
  refine loop_step tt_ok ?_
  intro _; refine ⟨fun _ => ?_, fun g => absurd g (by decide)⟩
  intro _
  refine len_test _ _ _ ?_
  intro _; refine ⟨fun g => ?_, fun g => ?_⟩
  · have g : (!decide (Ln a)) = true := g
    rw [Bool.not_eq_true'] at g
    have g := of_decide_eq_false g
    intro _
    exact no (fun h => g h.1.1)
  have g : (!decide (Ln a)) = false := g
  rw [Bool.not_eq_false'] at g
  have h0 := of_decide_eq_true g
  intro _
  refine loop_step tt_ok ?_
  intro _; refine ⟨fun _ => ?_, fun g => absurd g (by decide)⟩
  intro _
  refine len_test _ _ _ ?_
  intro _; refine ⟨fun g => ?_, fun g => ?_⟩
  · have g : (!decide (Ln b)) = true := g
    rw [Bool.not_eq_true'] at g
    have g := of_decide_eq_false g
    intro _
    exact no (fun h => g h.1.2.1)
  have g : (!decide (Ln b)) = false := g
  rw [Bool.not_eq_false'] at g
  have h1 := of_decide_eq_true g
  intro _
  refine loop_step tt_ok ?_
  intro _; refine ⟨fun _ => ?_, fun g => absurd g (by decide)⟩
  intro _
  refine len_test _ _ _ ?_
  intro _; refine ⟨fun g => ?_, fun g => ?_⟩
  · have g : (!decide (Ln c)) = true := g
    rw [Bool.not_eq_true'] at g
    have g := of_decide_eq_false g
    intro _
    exact no (fun h => g h.1.2.2.1)
  have g : (!decide (Ln c)) = false := g
  rw [Bool.not_eq_false'] at g
  have h2 := of_decide_eq_true g
  intro _
  refine loop_step tt_ok ?_
  intro _; refine ⟨fun _ => ?_, fun g => absurd g (by decide)⟩
  intro _
  refine len_test _ _ _ ?_
  intro _; refine ⟨fun g => ?_, fun g => ?_⟩
  · have g : (!decide (Ln d)) = true := g
    rw [Bool.not_eq_true'] at g
    have g := of_decide_eq_false g
    intro _
    exact no (fun h => g h.1.2.2.2.1)
  have g : (!decide (Ln d)) = false := g
  rw [Bool.not_eq_false'] at g
  have h3 := of_decide_eq_true g
  intro _
  refine loop_step tt_ok ?_
  intro _; refine ⟨fun _ => ?_, fun g => absurd g (by decide)⟩
  intro _
  refine len_test _ _ _ ?_
  intro _; refine ⟨fun g => ?_, fun g => ?_⟩
  · have g : (!decide (Ln e)) = true := g
    rw [Bool.not_eq_true'] at g
    have g := of_decide_eq_false g
    intro _
    exact no (fun h => g h.1.2.2.2.2.1)
  have g : (!decide (Ln e)) = false := g
  rw [Bool.not_eq_false'] at g
  have h4 := of_decide_eq_true g
  intro _
  refine loop_step tt_ok ?_
  intro _; refine ⟨fun _ => ?_, fun g => absurd g (by decide)⟩
  intro _
  refine len_test _ _ _ ?_
  intro _; refine ⟨fun g => ?_, fun g => ?_⟩
  · have g : (!decide (Ln f)) = true := g
    rw [Bool.not_eq_true'] at g
    have g := of_decide_eq_false g
    intro _
    exact no (fun h => g h.1.2.2.2.2.2)
  have g : (!decide (Ln f)) = false := g
  rw [Bool.not_eq_false'] at g
  have h5 := of_decide_eq_true g
  intro _
  refine loop_step tt_ok ?_
  intro _; refine ⟨fun g => absurd g (by decide), fun _ => ?_⟩
  have a1 := h0.1; have a2 := h0.2; have b1 := h1.1; have b2 := h1.2; have c1 := h2.1; have c2 := h2.2; have d1 := h3.1; have d2 := h3.2; have e1 := h4.1; have e2 := h4.2; have f1 := h5.1; have f2 := h5.2
  intro _; refine ⟨fun g => ?_, fun g => ?_⟩
  · have g := of_decide_eq_true (show decide (c > a) = true from g)
    intro _
    exact no (fun h => h.2.1 g)
  have g6 := of_decide_eq_false (show decide (c > a) = false from g)
  have w1 : IntKind.i64.wrap (a + b) = a + b := wrapS _ ⟨by omega, by omega⟩
  have w2 : IntKind.i64.wrap (f + e) = f + e := wrapS _ ⟨by omega, by omega⟩
  have w3 : IntKind.i64.wrap (d - b) = d - b := wrapS _ ⟨by omega, by omega⟩
  intro _; refine ⟨fun g => ?_, fun g => ?_⟩
  · have g := of_decide_eq_true (show decide (IntKind.i64.wrap (a + b) > d) = true from g)
    rw [w1] at g
    intro _
    exact no (fun h => h.2.2 g)
  have g7 := of_decide_eq_false (show decide (IntKind.i64.wrap (a + b) > d) = false from g)
  rw [w1] at g7
  intro _
  refine ⟨?_, rfl⟩
  unfold ST; rw [if_pos ⟨⟨h0, h1, h2, h3, h4, h5⟩, g6, g7⟩]
  show V.tup [.int .i64 (min (max a (IntKind.i64.wrap (f + e))) (IntKind.i64.wrap (d - b))), .int .i64 0] = _
  rw [w2, w3]
theorem rstick_ok (a b c d e f : Int) : SemF Try.prog 27 [.int .i64 a, .int .i64 b, .int .i64 c, .int .i64 d, .int .i64 e, .int .i64 f] ⟨0, 0, []⟩ (fun v _ => v = ST a b c d e f ∧ nameless v = true) := by
  refine enter tt_ok Try.func27 (nt := 63) (cd := body Try.f27) rfl rfl rfl rfl ?_
  have no : ¬ SO a b c d e f → V.tup [.int .i64 0, .int .i64 1] = ST a b c d e f ∧ nameless (V.tup [.int .i64 0, .int .i64 1]) = true := fun h => ⟨by unfold ST; rw [if_neg h], rfl⟩
  intro _
  refine rlen_test _ _ _ ?_
  intro _; refine ⟨fun g => ?_, fun g => ?_⟩
  · have g : (!decide (Ln a)) = true := g
    rw [Bool.not_eq_true'] at g
    have g := of_decide_eq_false g
    intro _
    exact no (fun h => g h.1.1)
  have g : (!decide (Ln a)) = false := g
  rw [Bool.not_eq_false'] at g
  have h0 := of_decide_eq_true g
  intro _
  refine rlen_test _ _ _ ?_
  intro _; refine ⟨fun g => ?_, fun g => ?_⟩
  · have g : (!decide (Ln b)) = true := g
    rw [Bool.not_eq_true'] at g
    have g := of_decide_eq_false g
    intro _
    exact no (fun h => g h.1.2.1)
  have g : (!decide (Ln b)) = false := g
  rw [Bool.not_eq_false'] at g
  have h1 := of_decide_eq_true g
  intro _
  refine rlen_test _ _ _ ?_
  intro _; refine ⟨fun g => ?_, fun g => ?_⟩
  · have g : (!decide (Ln c)) = true := g
    rw [Bool.not_eq_true'] at g
    have g := of_decide_eq_false g
    intro _
    exact no (fun h => g h.1.2.2.1)
  have g : (!decide (Ln c)) = false := g
  rw [Bool.not_eq_false'] at g
  have h2 := of_decide_eq_true g
  intro _
  refine rlen_test _ _ _ ?_
  intro _; refine ⟨fun g => ?_, fun g => ?_⟩
  · have g : (!decide (Ln d)) = true := g
    rw [Bool.not_eq_true'] at g
    have g := of_decide_eq_false g
    intro _
    exact no (fun h => g h.1.2.2.2.1)
  have g : (!decide (Ln d)) = false := g
  rw [Bool.not_eq_false'] at g
  have h3 := of_decide_eq_true g
  intro _
  refine rlen_test _ _ _ ?_
  intro _; refine ⟨fun g => ?_, fun g => ?_⟩
  · have g : (!decide (Ln e)) = true := g
    rw [Bool.not_eq_true'] at g
    have g := of_decide_eq_false g
    intro _
    exact no (fun h => g h.1.2.2.2.2.1)
  have g : (!decide (Ln e)) = false := g
  rw [Bool.not_eq_false'] at g
  have h4 := of_decide_eq_true g
  intro _
  refine rlen_test _ _ _ ?_
  intro _; refine ⟨fun g => ?_, fun g => ?_⟩
  · have g : (!decide (Ln f)) = true := g
    rw [Bool.not_eq_true'] at g
    have g := of_decide_eq_false g
    intro _
    exact no (fun h => g h.1.2.2.2.2.2)
  have g : (!decide (Ln f)) = false := g
  rw [Bool.not_eq_false'] at g
  have h5 := of_decide_eq_true g
  have a1 := h0.1; have a2 := h0.2; have b1 := h1.1; have b2 := h1.2; have c1 := h2.1; have c2 := h2.2; have d1 := h3.1; have d2 := h3.2; have e1 := h4.1; have e2 := h4.2; have f1 := h5.1; have f2 := h5.2
  intro _; refine ⟨fun g => ?_, fun g => ?_⟩
  · have g := of_decide_eq_true (show decide (c > a) = true from g)
    intro _
    exact no (fun h => h.2.1 g)
  have g6 := of_decide_eq_false (show decide (c > a) = false from g)
  have w1 : IntKind.i64.wrap (a + b) = a + b := wrapS _ ⟨by omega, by omega⟩
  have w2 : IntKind.i64.wrap (f + e) = f + e := wrapS _ ⟨by omega, by omega⟩
  have w3 : IntKind.i64.wrap (d - b) = d - b := wrapS _ ⟨by omega, by omega⟩
  intro _; refine ⟨fun g => ?_, fun g => ?_⟩
  · have g := of_decide_eq_true (show decide (IntKind.i64.wrap (a + b) > d) = true from g)
    rw [w1] at g
    intro _
    exact no (fun h => h.2.2 g)
  have g7 := of_decide_eq_false (show decide (IntKind.i64.wrap (a + b) > d) = false from g)
  rw [w1] at g7
  intro _
  refine ⟨?_, rfl⟩
  unfold ST; rw [if_pos ⟨⟨h0, h1, h2, h3, h4, h5⟩, g6, g7⟩]
  show V.tup [.int .i64 (min (max a (IntKind.i64.wrap (f + e))) (IntKind.i64.wrap (d - b))), .int .i64 0] = _
  rw [w2, w3]
theorem rabs_ok (x : Nat → Int) (X Y W : Int) : SemF Try.prog 24 [.agg (SV x), .int .i64 X, .int .i64 Y, .int .i64 W] ⟨0, 0, []⟩ (fun v _ => v = AB x X Y W ∧ nameless v = true) := by
  refine enter tt_ok Try.func24 (nt := 54) (cd := body Try.f24) rfl rfl rfl rfl ?_
  have no : ¬ ((RS x ∧ Mg X ∧ Mg Y) ∧ Ln W) → V.tup [BX 0 0 0, .int .i64 1] = AB x X Y W ∧ nameless (V.tup [BX 0 0 0, .int .i64 1]) = true := fun h => ⟨by unfold AB; rw [if_neg h], rfl⟩
  intro _
  refine call_pure [] (rright_ok x) rfl rfl rfl ?_ ?_ ?_
  · (repeat' first | exact trivial | exact rfl | refine And.intro ?_ ?_)
  · (repeat' first | exact trivial | exact rfl | refine And.intro ?_ ?_)
  intro v hv _
  subst hv
  intro _; refine ⟨fun g => ?_, fun g => ?_⟩
  · have g : (!decide (RS x)) = true := g
    rw [Bool.not_eq_true'] at g
    have g := of_decide_eq_false g
    intro _
    exact no (fun h => g h.1.1)
  have g : (!decide (RS x)) = false := g
  rw [Bool.not_eq_false'] at g
  have h1 := of_decide_eq_true g
  intro _
  refine rcoord_test _ _ _ ?_
  intro _; refine ⟨fun g => ?_, fun g => ?_⟩
  · have g : (!decide (Mg X)) = true := g
    rw [Bool.not_eq_true'] at g
    have g := of_decide_eq_false g
    intro _
    exact no (fun h => g h.1.2.1)
  have g : (!decide (Mg X)) = false := g
  rw [Bool.not_eq_false'] at g
  have h2 := of_decide_eq_true g
  intro _
  refine rcoord_test _ _ _ ?_
  intro _; refine ⟨fun g => ?_, fun g => ?_⟩
  · have g : (!decide (Mg Y)) = true := g
    rw [Bool.not_eq_true'] at g
    have g := of_decide_eq_false g
    intro _
    exact no (fun h => g h.1.2.2)
  have g : (!decide (Mg Y)) = false := g
  rw [Bool.not_eq_false'] at g
  have h3 := of_decide_eq_true g
  intro _
  refine rlen_test _ _ _ ?_
  intro _; refine ⟨fun g => ?_, fun g => ?_⟩
  · have g : (!decide (Ln W)) = true := g
    rw [Bool.not_eq_true'] at g
    have g := of_decide_eq_false g
    intro _
    exact no (fun h => g h.2)
  have g : (!decide (Ln W)) = false := g
  rw [Bool.not_eq_false'] at g
  have h4 := of_decide_eq_true g
  have a18 := h1.2.1.1; have a18' := h1.2.1.2; have a19 := h1.2.2.1; have a19' := h1.2.2.2
  have b1 := h2.1; have b1' := h2.2; have b2 := h3.1; have b2' := h3.2
  have e1 : IntKind.i64.wrap (X + x 19) = X + x 19 := wrapS _ ⟨by omega, by omega⟩
  have e2 : IntKind.i64.wrap (Y + x 18) = Y + x 18 := wrapS _ ⟨by omega, by omega⟩
  intro _
  refine rcoord_test _ _ _ ?_
  intro _; refine ⟨fun g => ?_, fun g => ?_⟩
  · have g : (!decide (Mg (IntKind.i64.wrap (X + x 19)))) = true := g
    rw [Bool.not_eq_true', e1] at g
    have g := of_decide_eq_false g
    intro _
    refine ⟨?_, rfl⟩
    unfold AB; rw [if_pos ⟨⟨h1, h2, h3⟩, h4⟩, if_neg (fun h => g h.1)]; rfl
  have g : (!decide (Mg (IntKind.i64.wrap (X + x 19)))) = false := g
  rw [Bool.not_eq_false', e1] at g
  have h5 := of_decide_eq_true g
  intro _
  refine rcoord_test _ _ _ ?_
  intro _; refine ⟨fun g => ?_, fun g => ?_⟩
  · have g : (!decide (Mg (IntKind.i64.wrap (Y + x 18)))) = true := g
    rw [Bool.not_eq_true', e2] at g
    have g := of_decide_eq_false g
    intro _
    refine ⟨?_, rfl⟩
    unfold AB; rw [if_pos ⟨⟨h1, h2, h3⟩, h4⟩, if_neg (fun h => g h.2)]; rfl
  have g : (!decide (Mg (IntKind.i64.wrap (Y + x 18)))) = false := g
  rw [Bool.not_eq_false', e2] at g
  have h6 := of_decide_eq_true g
  intro _
  refine call_pure [] (rwidth_ok x W h1.1.2.2.1.1) rfl rfl rfl ?_ ?_ ?_
  · (repeat' first | exact trivial | exact rfl | refine And.intro ?_ ?_)
  · (repeat' first | exact trivial | exact rfl | refine And.intro ?_ ?_)
  intro v hv _
  subst hv
  intro _
  refine ⟨?_, rfl⟩
  unfold AB; rw [if_pos ⟨⟨h1, h2, h3⟩, h4⟩, if_pos ⟨h5, h6⟩]
  show V.tup [BX (IntKind.i64.wrap (X + x 19)) (IntKind.i64.wrap (Y + x 18)) (wd x W), V.int .i64 0] = _
  rw [e1, e2]
def IN (x : Nat → Int) (W : Int) : V := if RS x ∧ Ln W then .tup [.int .i64 (x 3), .int .i64 (max (W - 2 * x 3) 0), .int .i64 0] else .tup [.int .i64 0, .int .i64 0, .int .i64 1]
theorem inner_ok (x : Nat → Int) (W : Int) : SemF Try.prog 21 [.agg (SV x), .int .i64 W] ⟨0, 0, []⟩ (fun v _ => v = IN x W ∧ nameless v = true) := by
  refine enter tt_ok Try.func21 (nt := 23) (cd := body Try.f21) rfl rfl rfl rfl ?_
  have no : ¬ (RS x ∧ Ln W) → V.tup [.int .i64 0, .int .i64 0, .int .i64 1] = IN x W ∧ nameless (V.tup [.int .i64 0, .int .i64 0, .int .i64 1]) = true := fun h => ⟨by unfold IN; rw [if_neg h], rfl⟩
  intro _
  refine call_pure [] (right_ok x) rfl rfl rfl ?_ ?_ ?_
  · (repeat' first | exact trivial | exact rfl | refine And.intro ?_ ?_)
  · (repeat' first | exact trivial | exact rfl | refine And.intro ?_ ?_)
  intro v hv _
  subst hv
  intro _; refine ⟨fun g => ?_, fun g => ?_⟩
  · have g : (!decide (RS x)) = true := g
    rw [Bool.not_eq_true'] at g
    have g := of_decide_eq_false g
    intro _
    exact no (fun h => g h.1)
  have g : (!decide (RS x)) = false := g
  rw [Bool.not_eq_false'] at g
  have h1 := of_decide_eq_true g
  intro _
  refine len_test _ _ _ ?_
  intro _; refine ⟨fun g => ?_, fun g => ?_⟩
  · have g : (!decide (Ln W)) = true := g
    rw [Bool.not_eq_true'] at g
    have g := of_decide_eq_false g
    intro _
    exact no (fun h => g h.2)
  have g : (!decide (Ln W)) = false := g
  rw [Bool.not_eq_false'] at g
  have h2 := of_decide_eq_true g
  have a3 := h1.1.2.2.2.1; have a3' := h1.1.2.2.2.2
  have b1 := h2.1; have b2 := h2.2
  intro _
  refine ⟨by kernel_rfl, ?_⟩
  intro _
  refine ⟨?_, rfl⟩
  unfold IN; rw [if_pos ⟨h1, h2⟩]
  show V.tup [.int .i64 (x 3), .int .i64 (max (IntKind.i64.wrap (W - IntKind.i64.wrap (2 * x 3))) 0), .int .i64 0] = _
  rw [wrapS (2 * x 3) ⟨by omega, by omega⟩, wrapS _ ⟨by omega, by omega⟩]
theorem rinner_ok (x : Nat → Int) (W : Int) : SemF Try.prog 22 [.agg (SV x), .int .i64 W] ⟨0, 0, []⟩ (fun v _ => v = IN x W ∧ nameless v = true) := by
  refine enter tt_ok Try.func22 (nt := 26) (cd := body Try.f22) rfl rfl rfl rfl ?_
  have no : ¬ (RS x ∧ Ln W) → V.tup [.int .i64 0, .int .i64 0, .int .i64 1] = IN x W ∧ nameless (V.tup [.int .i64 0, .int .i64 0, .int .i64 1]) = true := fun h => ⟨by unfold IN; rw [if_neg h], rfl⟩
  intro _
  refine call_pure [] (rright_ok x) rfl rfl rfl ?_ ?_ ?_
  · (repeat' first | exact trivial | exact rfl | refine And.intro ?_ ?_)
  · (repeat' first | exact trivial | exact rfl | refine And.intro ?_ ?_)
  intro v hv _
  subst hv
  intro _; refine ⟨fun g => ?_, fun g => ?_⟩
  · have g : (!decide (RS x)) = true := g
    rw [Bool.not_eq_true'] at g
    have g := of_decide_eq_false g
    intro _
    exact no (fun h => g h.1)
  have g : (!decide (RS x)) = false := g
  rw [Bool.not_eq_false'] at g
  have h1 := of_decide_eq_true g
  intro _
  refine rlen_test _ _ _ ?_
  intro _; refine ⟨fun g => ?_, fun g => ?_⟩
  · have g : (!decide (Ln W)) = true := g
    rw [Bool.not_eq_true'] at g
    have g := of_decide_eq_false g
    intro _
    exact no (fun h => g h.2)
  have g : (!decide (Ln W)) = false := g
  rw [Bool.not_eq_false'] at g
  have h2 := of_decide_eq_true g
  have a3 := h1.1.2.2.2.1; have a3' := h1.1.2.2.2.2
  have b1 := h2.1; have b2 := h2.2
  intro _
  refine ⟨?_, rfl⟩
  unfold IN; rw [if_pos ⟨h1, h2⟩]
  show V.tup [.int .i64 (x 3), .int .i64 (max 0 (IntKind.i64.wrap (W - IntKind.i64.wrap (2 * x 3)))), .int .i64 0] = _
  rw [wrapS (2 * x 3) ⟨by omega, by omega⟩, wrapS _ ⟨by omega, by omega⟩, Int.max_comm]
theorem AB_form (x : Nat → Int) (X Y W : Int) : ∃ a b c e : Int, AB x X Y W = .tup [BX a b c, .int .i64 e] := by
  unfold AB; split
  · split
    · exact ⟨_, _, _, _, rfl⟩
    · exact ⟨_, _, _, _, rfl⟩
  · exact ⟨_, _, _, _, rfl⟩
theorem ST_form (a b c d e f : Int) : ∃ m n : Int, ST a b c d e f = .tup [.int .i64 m, .int .i64 n] := by
  unfold ST; split <;> exact ⟨_, _, rfl⟩
theorem IN_form (x : Nat → Int) (W : Int) : ∃ l m n : Int, IN x W = .tup [.int .i64 l, .int .i64 m, .int .i64 n] := by
  unfold IN; split <;> exact ⟨_, _, _, rfl⟩
theorem law4 (x : Nat → Int) (X Y W a b c d e : Int) : SemF Try.prog 4 [.agg (SV x), .int .i64 X, .int .i64 Y, .int .i64 W, .int .i64 a, .int .i64 b, .int .i64 c, .int .i64 d, .int .i64 e] ⟨0, 0, []⟩ (fun v _ => IsTrue v) := by
  refine enter tt_ok Try.func4 (nt := 160) (cd := body Try.f4) rfl rfl rfl rfl ?_
  have no : ∀ (p : Int) (P : Prop), (p == p) = false → P := fun p P h2 => absurd (show (p == p) = true by simp) (by rw [h2]; simp)
  obtain ⟨q1, q2, q3, q4, hq⟩ := AB_form x X Y W
  obtain ⟨s1, s2, hs⟩ := ST_form Y a b c d e
  obtain ⟨i1, i2, i3, hi⟩ := IN_form x W
  intro _
  refine head_ok rfl Try.func18 (cd := body Try.f18) rfl ?_
  intro _
  refine call_pure [] (Width_ok x W) rfl rfl rfl ?_ ?_ ?_
  · (repeat' first | exact trivial | exact rfl | refine And.intro ?_ ?_)
  · (repeat' first | exact trivial | exact rfl | refine And.intro ?_ ?_)
  intro v hv _
  subst hv
  intro _
  refine call_pure [] (rWidth_ok x W) rfl rfl rfl ?_ ?_ ?_
  · (repeat' first | exact trivial | exact rfl | refine And.intro ?_ ?_)
  · (repeat' first | exact trivial | exact rfl | refine And.intro ?_ ?_)
  intro v hv _
  subst hv
  intro _; refine ⟨fun _ => ?_, fun k => no _ _ k⟩
  intro _
  refine call_pure [] (inner_ok x W) rfl rfl rfl ?_ ?_ ?_
  · (repeat' first | exact trivial | exact rfl | refine And.intro ?_ ?_)
  · (repeat' first | exact trivial | exact rfl | refine And.intro ?_ ?_)
  intro v hv _
  rw [hi] at hv
  subst hv
  intro _
  refine call_pure [] (rinner_ok x W) rfl rfl rfl ?_ ?_ ?_
  · (repeat' first | exact trivial | exact rfl | refine And.intro ?_ ?_)
  · (repeat' first | exact trivial | exact rfl | refine And.intro ?_ ?_)
  intro v hv _
  rw [hi] at hv
  subst hv
  intro _; refine ⟨fun _ => ?_, fun k => no _ _ k⟩
  intro _; refine ⟨fun _ => ?_, fun k => no _ _ k⟩
  intro _; refine ⟨fun _ => ?_, fun k => no _ _ k⟩
  intro _
  refine call_pure [] (abs_ok x X Y W) rfl rfl rfl ?_ ?_ ?_
  · (repeat' first | exact trivial | exact rfl | refine And.intro ?_ ?_)
  · (repeat' first | exact trivial | exact rfl | refine And.intro ?_ ?_)
  intro v hv _
  rw [hq] at hv
  subst hv
  intro _
  refine call_pure [] (rabs_ok x X Y W) rfl rfl rfl ?_ ?_ ?_
  · (repeat' first | exact trivial | exact rfl | refine And.intro ?_ ?_)
  · (repeat' first | exact trivial | exact rfl | refine And.intro ?_ ?_)
  intro v hv _
  rw [hq] at hv
  subst hv
  intro _; refine ⟨fun _ => ?_, fun k => no _ _ k⟩
  intro _; refine ⟨fun _ => ?_, fun k => no _ _ k⟩
  intro _; refine ⟨fun _ => ?_, fun k => no _ _ k⟩
  intro _; refine ⟨fun _ => ?_, fun k => no _ _ k⟩
  intro _
  refine call_pure [] (bare_ok q1 q2 q3) rfl rfl rfl ?_ ?_ ?_
  · (repeat' first | exact trivial | exact rfl | refine And.intro ?_ ?_)
  · (repeat' first | exact trivial | exact rfl | refine And.intro ?_ ?_)
  intro v hv _
  subst hv
  intro _; refine ⟨fun _ => ?_, fun k => by simp at k⟩
  intro _
  refine call_pure [] (stick_ok Y a b c d e) rfl rfl rfl ?_ ?_ ?_
  · (repeat' first | exact trivial | exact rfl | refine And.intro ?_ ?_)
  · (repeat' first | exact trivial | exact rfl | refine And.intro ?_ ?_)
  intro v hv _
  rw [hs] at hv
  subst hv
  intro _
  refine call_pure [] (rstick_ok Y a b c d e) rfl rfl rfl ?_ ?_ ?_
  · (repeat' first | exact trivial | exact rfl | refine And.intro ?_ ?_)
  · (repeat' first | exact trivial | exact rfl | refine And.intro ?_ ?_)
  intro v hv _
  rw [hs] at hv
  subst hv
  intro _; refine ⟨fun _ => ?_, fun k => no _ _ k⟩
  intro _; refine ⟨fun _ => ?_, fun k => no _ _ k⟩
  intro _
  show (s2 == s2) = true
  simp

def SVA (x : Nat → Int) : List Go.Vm.AV := [.int .i64 (x 0), .int .i64 (x 1), .int .i64 (x 2), .int .i64 (x 3), .int .i64 (x 4), .int .i64 (x 5), .int .i64 (x 6), .int .i64 (x 7), .int .i64 (x 8), .int .i64 (x 9), .int .i64 (x 10), .int .i64 (x 11), .int .i64 (x 12), .int .i64 (x 13), .int .i64 (x 14), .int .i64 (x 15), .int .i64 (x 16), .int .i64 (x 17), .int .i64 (x 18), .int .i64 (x 19), .int .i64 (x 20), .int .i64 (x 21), .int .i64 (x 22), .int .i64 (x 23), .int .i64 (x 24), .int .i64 (x 25), .int .i64 (x 26), .int .i64 (x 27), .int .i64 (x 28), .int .i64 (x 29), .int .i64 (x 30), .int .i64 (x 31), .int .i64 (x 32)]
theorem SV_cv (x : Nat → Int) {n : Nat} {ν : Nu} : Cv n ν (.agg (SV x)) (.agg (SVA x)) := by
  simp only [Cv]
  exact ⟨SVA x, rfl, Cvs.cons mk_int (Cvs.cons mk_int (Cvs.cons mk_int (Cvs.cons mk_int (Cvs.cons mk_int (Cvs.cons mk_int (Cvs.cons mk_int (Cvs.cons mk_int (Cvs.cons mk_int (Cvs.cons mk_int (Cvs.cons mk_int (Cvs.cons mk_int (Cvs.cons mk_int (Cvs.cons mk_int (Cvs.cons mk_int (Cvs.cons mk_int (Cvs.cons mk_int (Cvs.cons mk_int (Cvs.cons mk_int (Cvs.cons mk_int (Cvs.cons mk_int (Cvs.cons mk_int (Cvs.cons mk_int (Cvs.cons mk_int (Cvs.cons mk_int (Cvs.cons mk_int (Cvs.cons mk_int (Cvs.cons mk_int (Cvs.cons mk_int (Cvs.cons mk_int (Cvs.cons mk_int (Cvs.cons mk_int (Cvs.cons mk_int (Cvs.nil)))))))))))))))))))))))))))))))))⟩
set_option maxRecDepth 100000 in
theorem arr_of (cs : Array Value) (hs : cs.size = 33) (hc : ∀ i, i < 33 → ∃ n, cs[i]? = some (.int .i64 n)) : ∃ x : Nat → Int, ∀ ρ, Go.Vm.conv ρ (.agg (SVA x)) = some (.agg cs) := by
  refine ⟨fun i => match (cs[i]? : Option Value) with | some (Value.int _ n) => n | _ => (0 : Int), fun ρ => ?_⟩
  have h1 : Go.Vm.convs ρ (SVA fun i => match (cs[i]? : Option Value) with | some (Value.int _ n) => n | _ => (0 : Int)) = some cs.toList := by
    show Go.Vm.convs ρ ((List.range 33).map fun i => Go.Vm.AV.int .i64 (match (cs[i]? : Option Value) with | some (Value.int _ n) => n | _ => (0 : Int))) = _
    refine Go.Vm.convs_of_get (by simp [hs]) (fun i v hv => ?_)
    have hi : i < 33 := by
      rcases Nat.lt_or_ge i 33 with h | h
      · exact h
      · rw [List.getElem?_eq_none (by simpa using h)] at hv; cases hv
    obtain ⟨n, hn⟩ := hc i hi
    rw [List.getElem?_map, List.getElem?_range hi] at hv
    have hv : some (Go.Vm.AV.int .i64 (match (cs[i]? : Option Value) with | some (Value.int _ n) => n | _ => (0 : Int))) = some v := hv
    rw [hn] at hv
    cases hv
    exact ⟨.int .i64 n, rfl, by simpa using hn⟩
  simp only [Go.Vm.conv, h1]
  try simp
set_option maxRecDepth 100000 in
/-- what an array of integers is -/
theorem ints_of {w : World} {base : Nat} {v : Value} (h : Value.okWide Try.prog w .any base 33 v) : ∃ cs : Array Value, v = .agg cs ∧ cs.size = 33 ∧ ∀ i, i < 33 → ∃ n, cs[i]? = some (.int .i64 n) := by
  unfold Value.okWide at h
  rw [Try.underlying33] at h
  obtain ⟨cs, rfl, hs, ts, ht, _, hk⟩ := h
  have e1 : Try.prog.cellsOf 33 = 33 := by kernel_rfl
  have e2 : Try.prog.cellTypes Try.prog.depth 33 = some (List.replicate 33 3) := by kernel_rfl
  rw [e2] at ht
  simp only [Option.some.injEq] at ht
  subst ht
  refine ⟨cs, rfl, by rw [hs, e1], fun i hi => ?_⟩
  have hlt : i < cs.size := by rw [hs, e1]; exact hi
  obtain ⟨u, hu, hok⟩ := hk i cs[i] (by simp [hlt])
  have hu3 : u = 3 := by
    rw [List.length_replicate, Nat.mod_eq_of_lt hi, List.getElem?_replicate, if_pos hi] at hu
    exact (Option.some.inj hu).symm
  subst hu3
  have hv : Value.okWide Try.prog w .any base 3 cs[i] := by
    unfold Value.okWide
    rw [Try.underlying3]
    exact hok
  obtain ⟨n, hn⟩ := okWide_int Try.underlying3 hv
  exact ⟨n, by rw [← hn]; simp [hlt]⟩
theorem walk (w : World) (x : Nat → Int) (v_x : Value) (h_x : ∀ ρ, Go.Vm.conv ρ (.agg (SVA x)) = some v_x) (X : Int) (w_X : (Lit.int .i64 X).wf = true) (Y : Int) (w_Y : (Lit.int .i64 Y).wf = true) (R : Int) (w_R : (Lit.int .i64 R).wf = true) (a : Int) (w_a : (Lit.int .i64 a).wf = true) (b : Int) (w_b : (Lit.int .i64 b).wf = true) (c : Int) (w_c : (Lit.int .i64 c).wf = true) (d : Int) (w_d : (Lit.int .i64 d).wf = true) (e : Int) (w_e : (Lit.int .i64 e).wf = true) :
    Calls Try.prog 4 #[v_x, .int .i64 X, .int .i64 Y, .int .i64 R, .int .i64 a, .int .i64 b, .int .i64 c, .int .i64 d, .int .i64 e] w fun e w' => e = .returned (.bool true) ∧ Below w.heap.size w w' := by
  have b_X := w_X
  simp [Lit.wf, IntKind.min, IntKind.max, IntKind.signed, IntKind.bits] at b_X
  have b_Y := w_Y
  simp [Lit.wf, IntKind.min, IntKind.max, IntKind.signed, IntKind.bits] at b_Y
  have b_R := w_R
  simp [Lit.wf, IntKind.min, IntKind.max, IntKind.signed, IntKind.bits] at b_R
  have b_a := w_a
  simp [Lit.wf, IntKind.min, IntKind.max, IntKind.signed, IntKind.bits] at b_a
  have b_b := w_b
  simp [Lit.wf, IntKind.min, IntKind.max, IntKind.signed, IntKind.bits] at b_b
  have b_c := w_c
  simp [Lit.wf, IntKind.min, IntKind.max, IntKind.signed, IntKind.bits] at b_c
  have b_d := w_d
  simp [Lit.wf, IntKind.min, IntKind.max, IntKind.signed, IntKind.bits] at b_d
  have b_e := w_e
  simp [Lit.wf, IntKind.min, IntKind.max, IntKind.signed, IntKind.bits] at b_e
  exact top_run (by kernel_rfl) (by kernel_rfl) (T := [18]) (fun f hf w => by
      rcases List.mem_cons.1 hf with e | e
      · subst e; exact head w
      · exact (List.not_mem_nil e).elim) (l := []) (args := [.agg (SV x), .int .i64 X, .int .i64 Y, .int .i64 R, .int .i64 a, .int .i64 b, .int .i64 c, .int .i64 d, .int .i64 e]) («as» := [.agg (SVA x), .int .i64 X, .int .i64 Y, .int .i64 R, .int .i64 a, .int .i64 b, .int .i64 c, .int .i64 d, .int .i64 e]) (cargs := [v_x, .int .i64 X, .int .i64 Y, .int .i64 R, .int .i64 a, .int .i64 b, .int .i64 c, .int .i64 d, .int .i64 e]) w
    (fun s h => by
      exact (List.not_mem_nil h).elim)
    (Cvs.cons (SV_cv x) (Cvs.cons mk_int (Cvs.cons mk_int (Cvs.cons mk_int (Cvs.cons mk_int (Cvs.cons mk_int (Cvs.cons mk_int (Cvs.cons mk_int (Cvs.cons mk_int Cvs.nil)))))))))
    (by simp only [Go.Vm.convs, h_x]; try simp only [Go.Vm.conv])
    (law4 x X Y R a b c d e)

set_option maxRecDepth 100000 in
theorem lifted (os : Os) (started : os.Started) (H : Type) (enc : TypeId × Value → H) :
    ReturnsInHanded {} Try.checked os 4 .any (Rows.positionMatchesReferenceSpec.pre6 enc Try.prog Try.f4 Rows.positionMatchesReferenceRow.domain false) (Rows.positionMatchesReferenceSpec.post enc Try.prog Try.f4 false true false false) := by
  refine returnsInHanded_of_change (C := Try.checked) own started (by kernel_rfl) Try.func4
    (ChangeSpec.witness6 (enc := enc) (C := Try.checked) false ⟨#[], #[.agg (Array.replicate 33 (.int .i64 0)), .int .i64 0, .int .i64 0, .int .i64 0, .int .i64 0, .int .i64 0, .int .i64 0, .int .i64 0, .int .i64 0], []⟩ 8 (by kernel_rfl) (by kernel_rfl) (by kernel_rfl) (by kernel_rfl)) ?_
  intro W base args ds gs before hval0 hW hcnd _
  have hval : ∀ (j : Nat) t v, Try.f4.params[j]? = some t → args[j]? = some v → Value.okWide Try.prog W .any base t v := hval0
  have hW' := hW
  obtain ⟨p, q, hA0, hV, rfl, hfz, hnd⟩ := hW
  have hA : DataW.TrodAll enc Try.prog W 0 (fun _ => true) true Try.f4.params.toList args.toList ds p := hA0
  rw [Try.params4] at hA hval
  obtain ⟨v0, vs0, d0, ds0, p0, q0, hargs, rfl, rfl, h0, r0⟩ := trodAll_cons hA
  obtain ⟨v1, vs1, d1, ds1, p1, q1, rfl, rfl, rfl, h1, r1⟩ := trodAll_cons r0
  obtain ⟨v2, vs2, d2, ds2, p2, q2, rfl, rfl, rfl, h2, r2⟩ := trodAll_cons r1
  obtain ⟨v3, vs3, d3, ds3, p3, q3, rfl, rfl, rfl, h3, r3⟩ := trodAll_cons r2
  obtain ⟨v4, vs4, d4, ds4, p4, q4, rfl, rfl, rfl, h4, r4⟩ := trodAll_cons r3
  obtain ⟨v5, vs5, d5, ds5, p5, q5, rfl, rfl, rfl, h5, r5⟩ := trodAll_cons r4
  obtain ⟨v6, vs6, d6, ds6, p6, q6, rfl, rfl, rfl, h6, r6⟩ := trodAll_cons r5
  obtain ⟨v7, vs7, d7, ds7, p7, q7, rfl, rfl, rfl, h7, r7⟩ := trodAll_cons r6
  obtain ⟨v8, vs8, d8, ds8, p8, q8, rfl, rfl, rfl, h8, r8⟩ := trodAll_cons r7
  obtain ⟨rfl, rfl, rfl⟩ := trodAll_nil r8
  obtain rfl : args = #[v0, v1, v2, v3, v4, v5, v6, v7, v8] := by cases args; simp_all
  obtain ⟨rfl, rfl⟩ := trodVars_none hV
  obtain ⟨cs_x, rfl, hz_x, hc_x⟩ := ints_of (hval 0 33 v0 rfl rfl)
  obtain ⟨x, h_x⟩ := arr_of cs_x hz_x hc_x
  have hlt0 : ∀ x ∈ p0, x.block < W.heap.size := fun x hx => by simpa using hW'.lt x (by simp [hx])
  obtain ⟨X, rfl, rfl, rfl, w_X⟩ := open_int Try.underlying3 (hval 1 3 v1 rfl rfl) h1
  obtain ⟨Y, rfl, rfl, rfl, w_Y⟩ := open_int Try.underlying3 (hval 2 3 v2 rfl rfl) h2
  obtain ⟨R, rfl, rfl, rfl, w_R⟩ := open_int Try.underlying3 (hval 3 3 v3 rfl rfl) h3
  obtain ⟨a, rfl, rfl, rfl, w_a⟩ := open_int Try.underlying3 (hval 4 3 v4 rfl rfl) h4
  obtain ⟨b, rfl, rfl, rfl, w_b⟩ := open_int Try.underlying3 (hval 5 3 v5 rfl rfl) h5
  obtain ⟨c, rfl, rfl, rfl, w_c⟩ := open_int Try.underlying3 (hval 6 3 v6 rfl rfl) h6
  obtain ⟨d, rfl, rfl, rfl, w_d⟩ := open_int Try.underlying3 (hval 7 3 v7 rfl rfl) h7
  obtain ⟨e, rfl, rfl, rfl, w_e⟩ := open_int Try.underlying3 (hval 8 3 v8 rfl rfl) h8
  clear hA0 hval0
  refine (walk W x (.agg cs_x) h_x X w_X Y w_Y R w_R a w_a b w_b c w_c d w_d e w_e).mono fun e W' ⟨he, hg⟩ => ?_
  subst he
  exact ⟨_, rfl, _, _, _, [], _, [], hW', trodAll_cons_mk (shut_bool Try.underlying4 _) trodAll_mk0, (trodAll_cons_mk (Below.trod laidOut (by kernel_rfl) (of_decide_eq_true (by kernel_rfl)) h0 hg hlt0) (trodAll_cons_mk (shut_int Try.underlying3 w_X) (trodAll_cons_mk (shut_int Try.underlying3 w_Y) (trodAll_cons_mk (shut_int Try.underlying3 w_R) (trodAll_cons_mk (shut_int Try.underlying3 w_a) (trodAll_cons_mk (shut_int Try.underlying3 w_b) (trodAll_cons_mk (shut_int Try.underlying3 w_c) (trodAll_cons_mk (shut_int Try.underlying3 w_d) (trodAll_cons_mk (shut_int Try.underlying3 w_e) trodAll_mk0))))))))), rfl, hg.frame _, fun h => by cases h⟩

theorem over : Rows.positionMatchesReferenceRow.holds Try.pinned (OpenSpec.ofChange Rows.positionMatchesReferenceSpec) :=
  OpenClaim.holds_of_wide 4 Try.f4 rfl rfl rfl rfl rfl rfl rfl ⟨rfl, rfl, rfl, rfl, rfl⟩ rfl rfl rfl rfl rfl (by kernel_rfl) Try.func4 (by kernel_rfl)
    (of_decide_eq_true (by kernel_rfl)) (by unfold Func.isWrapper; first | (rw [if_pos (by decide +kernel)]; kernel_rfl) | (rw [if_neg (by decide +kernel)]; exact ⟨rfl, rfl⟩))
    (fun os started H enc _ => lifted os started H enc)

/-- the statement -/
theorem proved : Rows.PositionMatchesReferenceSaid :=
  over
#print axioms proved
end Go.Proofs.Ytkphagflnhnfkab.positionMatchesReference
