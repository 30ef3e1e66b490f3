/-
  Part of the proofs of layer 8 (breaks): what its functions return, as contracts of the machine by names. No conditions beyond those that its theorems name.
-/
import Derived.Test.YtbjidlekfoabaaaRows
import Derived.Test.YtbjidlekfoabaaaVwOpen2
import Derived.Test.YtbjidlekfoabaaaVwRules6
import Derived.Test.YtbjidlekfoabaaaVmSym
import Derived.WalkKit
import Derived.ProofKit
import Derived.OpenShut
import Derived.Carry
import Derived.ChangeMaps5
import Derived.Laws.RangeAny
namespace Go.Proofs.Ytbjidlekfoabaaa.brk
open Go.ChangeShapes Go.WideShapes Go.ChangeAt Go.RowKit
open Go.Vm (Facts Val Sound)
open Go.Vm2
set_option linter.unusedVariables false
set_option linter.unusedSectionVars false

set_option maxRecDepth 100000
def ts : List Nat := [24, 22, 9, 4, 27, 26, 37, 3, 5, 38, 49, 53, 21, 59]
def tt : Go.Vm2.TT := [
  (24, ⟨(.struct [⟨0, 1, false⟩, ⟨1, 1, false⟩, ⟨2, 1, false⟩]), true, 3, .agg [.int .i64 (0), .int .i64 (0), .nils], false⟩),
  (22, ⟨(.slice 9 1 16 [.str]), false, 1, .nils, true⟩),
  (9, ⟨.string, false, 1, .str [], true⟩),
  (4, ⟨.bool, false, 1, .bool false, true⟩),
  (27, ⟨(.int .i64), false, 1, .int .i64 (0), true⟩),
  (26, ⟨(.slice 37 2 16 [.int .i64, .bool]), false, 1, .nils, true⟩),
  (37, ⟨(.struct [⟨0, 1, false⟩, ⟨1, 1, false⟩]), true, 2, .agg [.int .i64 (0), .bool false], true⟩),
  (3, ⟨(.int .i64), false, 1, .int .i64 (0), true⟩),
  (5, ⟨(.int .u8), false, 1, .int .u8 (0), true⟩),
  (38, ⟨(.slice 5 1 1 [.int .u8]), false, 1, .nils, true⟩),
  (49, ⟨(.smap 4), false, 1, .nilm, true⟩),
  (53, ⟨.other, false, 1, .nilf, true⟩),
  (21, ⟨(.int .i32), false, 1, .int .i32 (0), true⟩),
  (59, ⟨(.slice 3 1 8 [.int .i64]), false, 1, .nils, true⟩)]
theorem tt_mk : mkTT Try.prog ts = some tt := by kernel_rfl
theorem head (w : World) : Calls Try.prog 9 #[] w fun e w' => e = .returned (.bool true) ∧ Below w.heap.size w w' :=
  Go.Vm.head_run (by kernel_rfl) (by kernel_rfl) (n := 1000000) (by kernel_rfl) w
instance facts : Facts := ⟨[], [9], false⟩
instance val : Val := ⟨fun _ => 0⟩
instance sound : Sound := ⟨fun f hf => (List.not_mem_nil hf).elim⟩
theorem tt_ok : TTok Try.prog tt := ttok_mk tt_mk
def body (f : Func) : Code := match f.body with | some c => c | none => .skip
set_option maxRecDepth 100000
theorem wrap_nat (k : Nat) (h : k < 9223372036854775807) : IntKind.i64.wrap ((k : Int) + 1) = ((k + 1 : Nat) : Int) := by
  rw [IntKind.wrap_i64]; omega
theorem wrapS (n : Int) (h : -9000000000000000000 ≤ n ∧ n ≤ 9000000000000000000) : IntKind.i64.wrap n = n := by rw [IntKind.wrap_i64]; omega
/-! classes of bytes -/
def cl (n : Int) : Int := if 97 ≤ n ∧ n ≤ 122 then 1 else if 65 ≤ n ∧ n ≤ 90 then 2 else if 48 ≤ n ∧ n ≤ 57 then 3 else if n = 32 then 4 else if n = 126 then 6 else if 32 < n ∧ n < 126 then 5 else 0
theorem cl_high {n : Int} (h : 128 ≤ n) : cl n = 0 := by unfold cl; repeat' split
                                                         all_goals omega
theorem rclass_ok (n : Int) : SemF Try.prog 38 [.int .u8 n] ⟨0, 0, []⟩ (fun v _ => v = .int .i64 (cl n) ∧ nameless v = true) := by
  refine enter tt_ok Try.func38 (nt := 31) (cd := body Try.f38) rfl rfl rfl rfl ?_
  intro _; refine ⟨fun g => ?_, fun g => ?_⟩
  · have g := of_decide_eq_true (show decide (n ≥ 97) = true from g)
    intro _; refine ⟨fun g => ?_, fun g => ?_⟩
    · have g := of_decide_eq_true (show decide (n ≤ 122) = true from g)
      intro _
      exact ⟨by rw [show cl n = 1 by (unfold cl; repeat' split) <;> omega], rfl⟩
    · have g := of_decide_eq_false (show decide (n ≤ 122) = false from g)
      intro _; refine ⟨fun g => ?_, fun g => ?_⟩
      · have g := of_decide_eq_true (show decide (n ≥ 65) = true from g)
        intro _; refine ⟨fun g => ?_, fun g => ?_⟩
        · have g := of_decide_eq_true (show decide (n ≤ 90) = true from g)
          intro _
          exact ⟨by rw [show cl n = 2 by (unfold cl; repeat' split) <;> omega], rfl⟩
        · have g := of_decide_eq_false (show decide (n ≤ 90) = false from g)
          intro _; refine ⟨fun g => ?_, fun g => ?_⟩
          · have g := of_decide_eq_true (show decide (n ≥ 48) = true from g)
            intro _; refine ⟨fun g => ?_, fun g => ?_⟩
            · have g := of_decide_eq_true (show decide (n ≤ 57) = true from g)
              intro _
              exact ⟨by rw [show cl n = 3 by (unfold cl; repeat' split) <;> omega], rfl⟩
            · have g := of_decide_eq_false (show decide (n ≤ 57) = false from g)
              intro _; refine ⟨fun g => ?_, fun g => ?_⟩
              · have g : (n == 32) = true := g
                have g : n = 32 := by simpa using g
                intro _
                exact ⟨by rw [show cl n = 4 by (unfold cl; repeat' split) <;> omega], rfl⟩
              · have g : (n == 32) = false := g
                have g : ¬ n = 32 := by simpa using g
                intro _; refine ⟨fun g => ?_, fun g => ?_⟩
                · have g : (n == 126) = true := g
                  have g : n = 126 := by simpa using g
                  intro _
                  exact ⟨by rw [show cl n = 6 by (unfold cl; repeat' split) <;> omega], rfl⟩
                · have g : (n == 126) = false := g
                  have g : ¬ n = 126 := by simpa using g
                  intro _; refine ⟨fun g => ?_, fun g => ?_⟩
                  · have g := of_decide_eq_true (show decide (n > 32) = true from g)
                    intro _; refine ⟨fun g => ?_, fun g => ?_⟩
                    · have g := of_decide_eq_true (show decide (n < 126) = true from g)
                      intro _
                      exact ⟨by rw [show cl n = 5 by (unfold cl; repeat' split) <;> omega], rfl⟩
                    · have g := of_decide_eq_false (show decide (n < 126) = false from g)
                      intro _
                      exact ⟨by rw [show cl n = 0 by (unfold cl; repeat' split) <;> omega], rfl⟩
                  · have g := of_decide_eq_false (show decide (n > 32) = false from g)
                    intro _
                    exact ⟨by rw [show cl n = 0 by (unfold cl; repeat' split) <;> omega], rfl⟩
          · have g := of_decide_eq_false (show decide (n ≥ 48) = false from g)
            intro _; refine ⟨fun g => ?_, fun g => ?_⟩
            · have g : (n == 32) = true := g
              have g : n = 32 := by simpa using g
              intro _
              exact ⟨by rw [show cl n = 4 by (unfold cl; repeat' split) <;> omega], rfl⟩
            · have g : (n == 32) = false := g
              have g : ¬ n = 32 := by simpa using g
              intro _; refine ⟨fun g => ?_, fun g => ?_⟩
              · have g : (n == 126) = true := g
                have g : n = 126 := by simpa using g
                intro _
                exact ⟨by rw [show cl n = 6 by (unfold cl; repeat' split) <;> omega], rfl⟩
              · have g : (n == 126) = false := g
                have g : ¬ n = 126 := by simpa using g
                intro _; refine ⟨fun g => ?_, fun g => ?_⟩
                · have g := of_decide_eq_true (show decide (n > 32) = true from g)
                  intro _; refine ⟨fun g => ?_, fun g => ?_⟩
                  · have g := of_decide_eq_true (show decide (n < 126) = true from g)
                    intro _
                    exact ⟨by rw [show cl n = 5 by (unfold cl; repeat' split) <;> omega], rfl⟩
                  · have g := of_decide_eq_false (show decide (n < 126) = false from g)
                    intro _
                    exact ⟨by rw [show cl n = 0 by (unfold cl; repeat' split) <;> omega], rfl⟩
                · have g := of_decide_eq_false (show decide (n > 32) = false from g)
                  intro _
                  exact ⟨by rw [show cl n = 0 by (unfold cl; repeat' split) <;> omega], rfl⟩
      · have g := of_decide_eq_false (show decide (n ≥ 65) = false from g)
        intro _; refine ⟨fun g => ?_, fun g => ?_⟩
        · have g := of_decide_eq_true (show decide (n ≥ 48) = true from g)
          intro _; refine ⟨fun g => ?_, fun g => ?_⟩
          · have g := of_decide_eq_true (show decide (n ≤ 57) = true from g)
            intro _
            exact ⟨by rw [show cl n = 3 by (unfold cl; repeat' split) <;> omega], rfl⟩
          · have g := of_decide_eq_false (show decide (n ≤ 57) = false from g)
            intro _; refine ⟨fun g => ?_, fun g => ?_⟩
            · have g : (n == 32) = true := g
              have g : n = 32 := by simpa using g
              intro _
              exact ⟨by rw [show cl n = 4 by (unfold cl; repeat' split) <;> omega], rfl⟩
            · have g : (n == 32) = false := g
              have g : ¬ n = 32 := by simpa using g
              intro _; refine ⟨fun g => ?_, fun g => ?_⟩
              · have g : (n == 126) = true := g
                have g : n = 126 := by simpa using g
                intro _
                exact ⟨by rw [show cl n = 6 by (unfold cl; repeat' split) <;> omega], rfl⟩
              · have g : (n == 126) = false := g
                have g : ¬ n = 126 := by simpa using g
                intro _; refine ⟨fun g => ?_, fun g => ?_⟩
                · have g := of_decide_eq_true (show decide (n > 32) = true from g)
                  intro _; refine ⟨fun g => ?_, fun g => ?_⟩
                  · have g := of_decide_eq_true (show decide (n < 126) = true from g)
                    intro _
                    exact ⟨by rw [show cl n = 5 by (unfold cl; repeat' split) <;> omega], rfl⟩
                  · have g := of_decide_eq_false (show decide (n < 126) = false from g)
                    intro _
                    exact ⟨by rw [show cl n = 0 by (unfold cl; repeat' split) <;> omega], rfl⟩
                · have g := of_decide_eq_false (show decide (n > 32) = false from g)
                  intro _
                  exact ⟨by rw [show cl n = 0 by (unfold cl; repeat' split) <;> omega], rfl⟩
        · have g := of_decide_eq_false (show decide (n ≥ 48) = false from g)
          intro _; refine ⟨fun g => ?_, fun g => ?_⟩
          · have g : (n == 32) = true := g
            have g : n = 32 := by simpa using g
            intro _
            exact ⟨by rw [show cl n = 4 by (unfold cl; repeat' split) <;> omega], rfl⟩
          · have g : (n == 32) = false := g
            have g : ¬ n = 32 := by simpa using g
            intro _; refine ⟨fun g => ?_, fun g => ?_⟩
            · have g : (n == 126) = true := g
              have g : n = 126 := by simpa using g
              intro _
              exact ⟨by rw [show cl n = 6 by (unfold cl; repeat' split) <;> omega], rfl⟩
            · have g : (n == 126) = false := g
              have g : ¬ n = 126 := by simpa using g
              intro _; refine ⟨fun g => ?_, fun g => ?_⟩
              · have g := of_decide_eq_true (show decide (n > 32) = true from g)
                intro _; refine ⟨fun g => ?_, fun g => ?_⟩
                · have g := of_decide_eq_true (show decide (n < 126) = true from g)
                  intro _
                  exact ⟨by rw [show cl n = 5 by (unfold cl; repeat' split) <;> omega], rfl⟩
                · have g := of_decide_eq_false (show decide (n < 126) = false from g)
                  intro _
                  exact ⟨by rw [show cl n = 0 by (unfold cl; repeat' split) <;> omega], rfl⟩
              · have g := of_decide_eq_false (show decide (n > 32) = false from g)
                intro _
                exact ⟨by rw [show cl n = 0 by (unfold cl; repeat' split) <;> omega], rfl⟩
  · have g := of_decide_eq_false (show decide (n ≥ 97) = false from g)
    intro _; refine ⟨fun g => ?_, fun g => ?_⟩
    · have g := of_decide_eq_true (show decide (n ≥ 65) = true from g)
      intro _; refine ⟨fun g => ?_, fun g => ?_⟩
      · have g := of_decide_eq_true (show decide (n ≤ 90) = true from g)
        intro _
        exact ⟨by rw [show cl n = 2 by (unfold cl; repeat' split) <;> omega], rfl⟩
      · have g := of_decide_eq_false (show decide (n ≤ 90) = false from g)
        intro _; refine ⟨fun g => ?_, fun g => ?_⟩
        · have g := of_decide_eq_true (show decide (n ≥ 48) = true from g)
          intro _; refine ⟨fun g => ?_, fun g => ?_⟩
          · have g := of_decide_eq_true (show decide (n ≤ 57) = true from g)
            intro _
            exact ⟨by rw [show cl n = 3 by (unfold cl; repeat' split) <;> omega], rfl⟩
          · have g := of_decide_eq_false (show decide (n ≤ 57) = false from g)
            intro _; refine ⟨fun g => ?_, fun g => ?_⟩
            · have g : (n == 32) = true := g
              have g : n = 32 := by simpa using g
              intro _
              exact ⟨by rw [show cl n = 4 by (unfold cl; repeat' split) <;> omega], rfl⟩
            · have g : (n == 32) = false := g
              have g : ¬ n = 32 := by simpa using g
              intro _; refine ⟨fun g => ?_, fun g => ?_⟩
              · have g : (n == 126) = true := g
                have g : n = 126 := by simpa using g
                intro _
                exact ⟨by rw [show cl n = 6 by (unfold cl; repeat' split) <;> omega], rfl⟩
              · have g : (n == 126) = false := g
                have g : ¬ n = 126 := by simpa using g
                intro _; refine ⟨fun g => ?_, fun g => ?_⟩
                · have g := of_decide_eq_true (show decide (n > 32) = true from g)
                  intro _; refine ⟨fun g => ?_, fun g => ?_⟩
                  · have g := of_decide_eq_true (show decide (n < 126) = true from g)
                    intro _
                    exact ⟨by rw [show cl n = 5 by (unfold cl; repeat' split) <;> omega], rfl⟩
                  · have g := of_decide_eq_false (show decide (n < 126) = false from g)
                    intro _
                    exact ⟨by rw [show cl n = 0 by (unfold cl; repeat' split) <;> omega], rfl⟩
                · have g := of_decide_eq_false (show decide (n > 32) = false from g)
                  intro _
                  exact ⟨by rw [show cl n = 0 by (unfold cl; repeat' split) <;> omega], rfl⟩
        · have g := of_decide_eq_false (show decide (n ≥ 48) = false from g)
          intro _; refine ⟨fun g => ?_, fun g => ?_⟩
          · have g : (n == 32) = true := g
            have g : n = 32 := by simpa using g
            intro _
            exact ⟨by rw [show cl n = 4 by (unfold cl; repeat' split) <;> omega], rfl⟩
          · have g : (n == 32) = false := g
            have g : ¬ n = 32 := by simpa using g
            intro _; refine ⟨fun g => ?_, fun g => ?_⟩
            · have g : (n == 126) = true := g
              have g : n = 126 := by simpa using g
              intro _
              exact ⟨by rw [show cl n = 6 by (unfold cl; repeat' split) <;> omega], rfl⟩
            · have g : (n == 126) = false := g
              have g : ¬ n = 126 := by simpa using g
              intro _; refine ⟨fun g => ?_, fun g => ?_⟩
              · have g := of_decide_eq_true (show decide (n > 32) = true from g)
                intro _; refine ⟨fun g => ?_, fun g => ?_⟩
                · have g := of_decide_eq_true (show decide (n < 126) = true from g)
                  intro _
                  exact ⟨by rw [show cl n = 5 by (unfold cl; repeat' split) <;> omega], rfl⟩
                · have g := of_decide_eq_false (show decide (n < 126) = false from g)
                  intro _
                  exact ⟨by rw [show cl n = 0 by (unfold cl; repeat' split) <;> omega], rfl⟩
              · have g := of_decide_eq_false (show decide (n > 32) = false from g)
                intro _
                exact ⟨by rw [show cl n = 0 by (unfold cl; repeat' split) <;> omega], rfl⟩
    · have g := of_decide_eq_false (show decide (n ≥ 65) = false from g)
      intro _; refine ⟨fun g => ?_, fun g => ?_⟩
      · have g := of_decide_eq_true (show decide (n ≥ 48) = true from g)
        intro _; refine ⟨fun g => ?_, fun g => ?_⟩
        · have g := of_decide_eq_true (show decide (n ≤ 57) = true from g)
          intro _
          exact ⟨by rw [show cl n = 3 by (unfold cl; repeat' split) <;> omega], rfl⟩
        · have g := of_decide_eq_false (show decide (n ≤ 57) = false from g)
          intro _; refine ⟨fun g => ?_, fun g => ?_⟩
          · have g : (n == 32) = true := g
            have g : n = 32 := by simpa using g
            intro _
            exact ⟨by rw [show cl n = 4 by (unfold cl; repeat' split) <;> omega], rfl⟩
          · have g : (n == 32) = false := g
            have g : ¬ n = 32 := by simpa using g
            intro _; refine ⟨fun g => ?_, fun g => ?_⟩
            · have g : (n == 126) = true := g
              have g : n = 126 := by simpa using g
              intro _
              exact ⟨by rw [show cl n = 6 by (unfold cl; repeat' split) <;> omega], rfl⟩
            · have g : (n == 126) = false := g
              have g : ¬ n = 126 := by simpa using g
              intro _; refine ⟨fun g => ?_, fun g => ?_⟩
              · have g := of_decide_eq_true (show decide (n > 32) = true from g)
                intro _; refine ⟨fun g => ?_, fun g => ?_⟩
                · have g := of_decide_eq_true (show decide (n < 126) = true from g)
                  intro _
                  exact ⟨by rw [show cl n = 5 by (unfold cl; repeat' split) <;> omega], rfl⟩
                · have g := of_decide_eq_false (show decide (n < 126) = false from g)
                  intro _
                  exact ⟨by rw [show cl n = 0 by (unfold cl; repeat' split) <;> omega], rfl⟩
              · have g := of_decide_eq_false (show decide (n > 32) = false from g)
                intro _
                exact ⟨by rw [show cl n = 0 by (unfold cl; repeat' split) <;> omega], rfl⟩
      · have g := of_decide_eq_false (show decide (n ≥ 48) = false from g)
        intro _; refine ⟨fun g => ?_, fun g => ?_⟩
        · have g : (n == 32) = true := g
          have g : n = 32 := by simpa using g
          intro _
          exact ⟨by rw [show cl n = 4 by (unfold cl; repeat' split) <;> omega], rfl⟩
        · have g : (n == 32) = false := g
          have g : ¬ n = 32 := by simpa using g
          intro _; refine ⟨fun g => ?_, fun g => ?_⟩
          · have g : (n == 126) = true := g
            have g : n = 126 := by simpa using g
            intro _
            exact ⟨by rw [show cl n = 6 by (unfold cl; repeat' split) <;> omega], rfl⟩
          · have g : (n == 126) = false := g
            have g : ¬ n = 126 := by simpa using g
            intro _; refine ⟨fun g => ?_, fun g => ?_⟩
            · have g := of_decide_eq_true (show decide (n > 32) = true from g)
              intro _; refine ⟨fun g => ?_, fun g => ?_⟩
              · have g := of_decide_eq_true (show decide (n < 126) = true from g)
                intro _
                exact ⟨by rw [show cl n = 5 by (unfold cl; repeat' split) <;> omega], rfl⟩
              · have g := of_decide_eq_false (show decide (n < 126) = false from g)
                intro _
                exact ⟨by rw [show cl n = 0 by (unfold cl; repeat' split) <;> omega], rfl⟩
            · have g := of_decide_eq_false (show decide (n > 32) = false from g)
              intro _
              exact ⟨by rw [show cl n = 0 by (unfold cl; repeat' split) <;> omega], rfl⟩
theorem dig_test (n : Int) (h : H) (K : V → H → Prop) (hK : K (.test (decide (48 ≤ n ∧ n ≤ 57))) h) : SemF Try.prog 48 [.int .i32 n] h K := by
  refine SemF.test ?_
  refine enter tt_ok Try.func48 (nt := 9) (cd := body Try.f48) rfl rfl rfl rfl ?_
  intro _; refine ⟨fun g => ?_, fun g => ?_⟩
  · have g := of_decide_eq_true (show decide (n ≥ 48) = true from g)
    intro _
    refine ⟨_, .inr rfl, ?_⟩
    have : decide (48 ≤ n ∧ n ≤ 57) = decide (n ≤ 57) := by
      by_cases e : n ≤ 57
      · rw [decide_eq_true e, decide_eq_true (show 48 ≤ n ∧ n ≤ 57 from ⟨by omega, e⟩)]
      · rw [decide_eq_false e, decide_eq_false (fun m => e m.2)]
    rw [← this]; exact hK
  · have g := of_decide_eq_false (show decide (n ≥ 48) = false from g)
    intro _
    refine ⟨false, .inl rfl, ?_⟩
    have : decide (48 ≤ n ∧ n ≤ 57) = false := decide_eq_false (fun m => by have := m.1; omega)
    rw [← this]; exact hK
theorem cap_test (n : Int) (h : H) (K : V → H → Prop) (hK : K (.test (decide (65 ≤ n ∧ n ≤ 90))) h) : SemF Try.prog 49 [.int .i32 n] h K := by
  refine SemF.test ?_
  refine enter tt_ok Try.func49 (nt := 9) (cd := body Try.f49) rfl rfl rfl rfl ?_
  intro _; refine ⟨fun g => ?_, fun g => ?_⟩
  · have g := of_decide_eq_true (show decide (n ≥ 65) = true from g)
    intro _
    refine ⟨_, .inr rfl, ?_⟩
    have : decide (65 ≤ n ∧ n ≤ 90) = decide (n ≤ 90) := by
      by_cases e : n ≤ 90
      · rw [decide_eq_true e, decide_eq_true (show 65 ≤ n ∧ n ≤ 90 from ⟨by omega, e⟩)]
      · rw [decide_eq_false e, decide_eq_false (fun m => e m.2)]
    rw [← this]; exact hK
  · have g := of_decide_eq_false (show decide (n ≥ 65) = false from g)
    intro _
    refine ⟨false, .inl rfl, ?_⟩
    have : decide (65 ≤ n ∧ n ≤ 90) = false := decide_eq_false (fun m => by have := m.1; omega)
    rw [← this]; exact hK
theorem sml_test (n : Int) (h : H) (K : V → H → Prop) (hK : K (.test (decide (97 ≤ n ∧ n ≤ 122))) h) : SemF Try.prog 50 [.int .i32 n] h K := by
  refine SemF.test ?_
  refine enter tt_ok Try.func50 (nt := 9) (cd := body Try.f50) rfl rfl rfl rfl ?_
  intro _; refine ⟨fun g => ?_, fun g => ?_⟩
  · have g := of_decide_eq_true (show decide (n ≥ 97) = true from g)
    intro _
    refine ⟨_, .inr rfl, ?_⟩
    have : decide (97 ≤ n ∧ n ≤ 122) = decide (n ≤ 122) := by
      by_cases e : n ≤ 122
      · rw [decide_eq_true e, decide_eq_true (show 97 ≤ n ∧ n ≤ 122 from ⟨by omega, e⟩)]
      · rw [decide_eq_false e, decide_eq_false (fun m => e m.2)]
    rw [← this]; exact hK
  · have g := of_decide_eq_false (show decide (n ≥ 97) = false from g)
    intro _
    refine ⟨false, .inl rfl, ?_⟩
    have : decide (97 ≤ n ∧ n ≤ 122) = false := decide_eq_false (fun m => by have := m.1; omega)
    rw [← this]; exact hK
def sg (n : Int) : Bool := decide (32 < n ∧ n < 126 ∧ ¬ (97 ≤ n ∧ n ≤ 122) ∧ ¬ (65 ≤ n ∧ n ≤ 90) ∧ ¬ (48 ≤ n ∧ n ≤ 57))
theorem sign_test (n : Int) (h : H) (K : V → H → Prop) (hK : K (.test (sg n)) h) : SemF Try.prog 47 [.int .i32 n] h K := by
  refine SemF.test ?_
  refine enter tt_ok Try.func47 (nt := 24) (cd := body Try.f47) rfl rfl rfl rfl ?_
  have no : ∀ P : Prop, (sg n = true → P) → ¬ P → ∃ b, (V.bool false = .bool b ∨ V.bool false = .test b) ∧ K (.test b) h := fun P h1 h2 => ⟨false, .inl rfl, by
    have : sg n = false := by
      cases e : sg n with
      | false => rfl
      | true => exact absurd (h1 e) h2
    rw [← this]; exact hK⟩
  have un : sg n = true → (32 < n ∧ n < 126 ∧ ¬ (97 ≤ n ∧ n ≤ 122) ∧ ¬ (65 ≤ n ∧ n ≤ 90) ∧ ¬ (48 ≤ n ∧ n ≤ 57)) := fun h => of_decide_eq_true h
  intro _; refine ⟨fun g => ?_, fun g => ?_⟩
  rotate_left
  · have g := of_decide_eq_false (show decide (n > 32) = false from g)
    intro _
    exact no (32 < n) (fun h => (un h).1) (by omega)
  have g1 := of_decide_eq_true (show decide (n > 32) = true from g)
  intro _; refine ⟨fun g => ?_, fun g => ?_⟩
  rotate_left
  · have g := of_decide_eq_false (show decide (n < 126) = false from g)
    intro _
    exact no (n < 126) (fun h => (un h).2.1) (by omega)
  have g2 := of_decide_eq_true (show decide (n < 126) = true from g)
  intro _
  refine sml_test _ _ _ ?_
  intro _; refine ⟨fun g => ?_, fun g => ?_⟩
  rotate_left
  · have g : (!decide (97 ≤ n ∧ n ≤ 122)) = false := g
    rw [Bool.not_eq_false'] at g
    have g := of_decide_eq_true g
    intro _
    exact no (¬ (97 ≤ n ∧ n ≤ 122)) (fun h => (un h).2.2.1) (fun h => h g)
  have g : (!decide (97 ≤ n ∧ n ≤ 122)) = true := g
  rw [Bool.not_eq_true'] at g
  have g3 := of_decide_eq_false g
  intro _
  refine cap_test _ _ _ ?_
  intro _; refine ⟨fun g => ?_, fun g => ?_⟩
  rotate_left
  · have g : (!decide (65 ≤ n ∧ n ≤ 90)) = false := g
    rw [Bool.not_eq_false'] at g
    have g := of_decide_eq_true g
    intro _
    exact no (¬ (65 ≤ n ∧ n ≤ 90)) (fun h => (un h).2.2.2.1) (fun h => h g)
  have g : (!decide (65 ≤ n ∧ n ≤ 90)) = true := g
  rw [Bool.not_eq_true'] at g
  have g4 := of_decide_eq_false g
  intro _
  refine dig_test _ _ _ ?_
  intro _
  refine ⟨_, .inr rfl, ?_⟩
  have : sg n = !decide (48 ≤ n ∧ n ≤ 57) := by
    by_cases e : 48 ≤ n ∧ n ≤ 57
    · rw [decide_eq_true e]; exact decide_eq_false (fun h => h.2.2.2.2 e)
    · rw [decide_eq_false e]; exact decide_eq_true ⟨g1, g2, g3, g4, e⟩
  rw [← this]; exact hK
theorem class_ok (n : Int) : SemF Try.prog 31 [.int .i32 n] ⟨0, 0, []⟩ (fun v _ => v = .int .i64 (cl n) ∧ nameless v = true) := by
  refine enter tt_ok Try.func31 (nt := 35) (cd := body Try.f31) rfl rfl rfl rfl ?_
  intro _; refine ⟨fun g => ?_, fun g => ?_⟩
  · have g : (n == 126) = true := g
    have g : n = 126 := by simpa using g
    intro _
    refine ⟨?_, rfl⟩
    rw [show cl n = 6 by (unfold cl; repeat' split) <;> omega]
    rfl
  have g : (n == 126) = false := g
  have g6 : ¬ n = 126 := by simpa using g
  intro _
  refine sign_test _ _ _ ?_
  intro _; refine ⟨fun g => ?_, fun g => ?_⟩
  · have g := of_decide_eq_true (show decide (32 < n ∧ n < 126 ∧ ¬ (97 ≤ n ∧ n ≤ 122) ∧ ¬ (65 ≤ n ∧ n ≤ 90) ∧ ¬ (48 ≤ n ∧ n ≤ 57)) = true from g)
    intro _
    refine ⟨?_, rfl⟩
    rw [show cl n = 5 by (unfold cl; repeat' split) <;> omega]
    rfl
  have g5 := of_decide_eq_false (show decide (32 < n ∧ n < 126 ∧ ¬ (97 ≤ n ∧ n ≤ 122) ∧ ¬ (65 ≤ n ∧ n ≤ 90) ∧ ¬ (48 ≤ n ∧ n ≤ 57)) = false from g)
  intro _; refine ⟨fun g => ?_, fun g => ?_⟩
  · have g : (n == 32) = true := g
    have g : n = 32 := by simpa using g
    intro _
    refine ⟨?_, rfl⟩
    rw [show cl n = 4 by (unfold cl; repeat' split) <;> omega]
    rfl
  have g : (n == 32) = false := g
  have g4 : ¬ n = 32 := by simpa using g
  intro _
  refine dig_test _ _ _ ?_
  intro _; refine ⟨fun g => ?_, fun g => ?_⟩
  · have g := of_decide_eq_true (show decide (48 ≤ n ∧ n ≤ 57) = true from g)
    intro _
    refine ⟨?_, rfl⟩
    rw [show cl n = 3 by (unfold cl; repeat' split) <;> omega]
    rfl
  have g3 := of_decide_eq_false (show decide (48 ≤ n ∧ n ≤ 57) = false from g)
  intro _
  refine cap_test _ _ _ ?_
  intro _; refine ⟨fun g => ?_, fun g => ?_⟩
  · have g := of_decide_eq_true (show decide (65 ≤ n ∧ n ≤ 90) = true from g)
    intro _
    refine ⟨?_, rfl⟩
    rw [show cl n = 2 by (unfold cl; repeat' split) <;> omega]
    rfl
  have g2 := of_decide_eq_false (show decide (65 ≤ n ∧ n ≤ 90) = false from g)
  intro _
  refine sml_test _ _ _ ?_
  intro _; refine ⟨fun g => ?_, fun g => ?_⟩
  · have g := of_decide_eq_true (show decide (97 ≤ n ∧ n ≤ 122) = true from g)
    intro _
    refine ⟨?_, rfl⟩
    rw [show cl n = 1 by (unfold cl; repeat' split) <;> omega]
    rfl
  have g1 := of_decide_eq_false (show decide (97 ≤ n ∧ n ≤ 122) = false from g)
  intro _
  refine ⟨?_, rfl⟩
  rw [show cl n = 0 by (unfold cl; repeat' split) <;> omega]
/-! texts -/
def by' (s : List UInt8) (i : Nat) : Int := ((s.getD i 0).toNat : Int)
def VA (s : List UInt8) : Prop := s.length ≤ 2000 ∧ ∀ i, i < s.length → cl (by' s i) ≠ 0
instance decVA (s : List UInt8) : Decidable (VA s) := inferInstanceAs (Decidable (_ ∧ _))
theorem ba_get {s : List UInt8} {k : Nat} (h : k < s.length) : ∃ h' : k < (ByteArray.mk s.toArray).size, (ByteArray.mk s.toArray)[k]'h' = s[k] :=
  ⟨by simpa [ByteArray.size] using h, by show s.toArray[k]'_ = s[k]; simp⟩
theorem rune_low {s : List UInt8} {k : Nat} (h : k < s.length) (hb : by' s k < 128) : rune s k = ((s.getD k 0).toNat, 1) := by
  have e : s.getD k 0 = s[k] := by rw [List.getD_eq_getElem?_getD, List.getElem?_eq_getElem h]; rfl
  unfold by' at hb
  rw [e] at hb ⊢
  obtain ⟨h', e'⟩ := ba_get h
  have := Go.decode_ascii ⟨s.toArray⟩ k h' (by rw [e']; omega)
  rw [e'] at this
  exact this
theorem rune_high {s : List UInt8} {k : Nat} (h : k < s.length) (hb : 128 ≤ by' s k) : 128 ≤ (rune s k).1 := by
  have e : s.getD k 0 = s[k] := by rw [List.getD_eq_getElem?_getD, List.getElem?_eq_getElem h]; rfl
  unfold by' at hb
  rw [e] at hb
  obtain ⟨h', e'⟩ := ba_get h
  exact (Go.decode_high ⟨s.toArray⟩ k h' (by rw [e']; omega)).1
theorem by_succ {s : List UInt8} {k : Nat} (hm : ∀ i, i < k → cl (by' s i) ≠ 0) (h : cl (by' s k) ≠ 0) : ∀ i, i < k + 1 → cl (by' s i) ≠ 0 := fun i hi => by
  by_cases e : i = k
  · subst e; exact h
  · exact hm i (by omega)
theorem rvalid_ok (s : List UInt8) (hl : s.length ≤ 9223372036854775807) : SemF Try.prog 22 [.str s] ⟨0, 0, []⟩ (fun v _ => v = .test (decide (VA s)) ∧ nameless v = true) := by
  refine SemF.test ?_
  refine enter tt_ok Try.func22 (nt := 18) (cd := body Try.f22) rfl rfl rfl rfl ?_
  intro _
  refine loop2 tt_ok [3] [] 0 (fun k : { k : Nat // k ≤ s.length ∧ ∀ i, i < k → cl (by' s i) ≠ 0 } => [(3, .int .i64 (k : Nat))]) (fun _ => []) (fun k => s.length - k) ⟨0, by omega, fun i h => by omega⟩ ?_
  intro _
  refine ⟨⟨th [] 0, rfl, rfl, rfl, rfl, rfl, rfl, ?_, ?_⟩, ?_⟩
  · (repeat' first | exact trivial | exact rfl | refine And.intro ?_ ?_)
  · (repeat' first | exact trivial | exact rfl | refine And.intro ?_ ?_)
  intro ⟨k, hk, hmk⟩
  intro _; refine ⟨fun g => ?_, fun g => ?_⟩
  rotate_left
  · have hkl := of_decide_eq_false (show decide ((k : Int) < (s.length : Int)) = false from g)
    have hkl : k = s.length := by omega
    subst hkl
    intro _
    refine ⟨_, .inr rfl, ?_, rfl⟩
    by_cases e : s.length ≤ 2000
    · rw [decide_eq_true (show (s.length : Int) ≤ 2000 by omega), decide_eq_true (show VA s from ⟨e, hmk⟩)]
    · rw [decide_eq_false (show ¬ (s.length : Int) ≤ 2000 by omega), decide_eq_false (fun h : VA s => e h.1)]
  have hkl := of_decide_eq_true (show decide ((k : Int) < (s.length : Int)) = true from g)
  intro _; refine ⟨show 0 ≤ (k : Int) ∧ (k : Int) < (s.length : Int) by omega, ?_⟩
  intro _
  refine call_pure [] (rclass_ok (by' s k)) rfl rfl rfl ?_ ?_ ?_
  · (repeat' first | exact trivial | exact rfl | refine And.intro ?_ ?_)
  · (repeat' first | exact trivial | exact rfl | refine And.intro ?_ ?_)
  intro v hv _
  subst hv
  intro _; refine ⟨fun g => ?_, fun g => ?_⟩
  · have g : (cl (by' s k) == 0) = true := g
    have g : cl (by' s k) = 0 := by simpa using g
    intro _
    exact ⟨false, .inl rfl, by rw [decide_eq_false (fun h : VA s => h.2 k (by omega) g)], rfl⟩
  have g : (cl (by' s k) == 0) = false := g
  have g : cl (by' s k) ≠ 0 := by simpa using g
  refine ⟨⟨k + 1, by omega, by_succ hmk g⟩, by simp; omega, th [] 0, rfl, rfl, rfl, rfl, rfl, rfl, ?_, ?_⟩
  · (repeat' first | exact trivial | exact rfl | refine And.intro ?_ ?_)
    exact (wrap_nat k (by omega)).symm
  · (repeat' first | exact trivial | exact rfl | refine And.intro ?_ ?_)
theorem valid_ok (s : List UInt8) (hl : s.length ≤ 9223372036854775807) : SemF Try.prog 20 [.str s] ⟨0, 0, []⟩ (fun v _ => v = .test (decide (VA s)) ∧ nameless v = true) := by
  refine SemF.test ?_
  refine enter tt_ok Try.func20 (nt := 16) (cd := body Try.f20) rfl rfl rfl rfl ?_
  intro _; refine ⟨fun g => ?_, fun g => ?_⟩
  · have g := of_decide_eq_true (show decide ((s.length : Int) > 2000) = true from g)
    intro _
    exact ⟨false, .inl rfl, by rw [decide_eq_false (fun h : VA s => by have := h.1; omega)], rfl⟩
  have g2 := of_decide_eq_false (show decide ((s.length : Int) > 2000) = false from g)
  intro _
  refine loop2 tt_ok [] [0] 1 (fun k : { k : Nat // k ≤ s.length ∧ ∀ i, i < k → cl (by' s i) ≠ 0 } => []) (fun k => [(0, .sit s (k : Nat))]) (fun k => s.length - k) ⟨0, by omega, fun i h => by omega⟩ ?_
  intro _
  refine ⟨⟨th [] 1, rfl, rfl, rfl, rfl, rfl, rfl, ?_, ?_⟩, ?_⟩
  · (repeat' first | exact trivial | exact rfl | refine And.intro ?_ ?_)
  · (repeat' first | exact trivial | exact rfl | refine And.intro ?_ ?_)
  intro ⟨k, hk, hmk⟩
  intro _; refine ⟨fun g => ?_, fun g => ?_⟩
  rotate_left
  · have hkl := of_decide_eq_false (show decide (k < s.length) = false from g)
    have hkl : k = s.length := by omega
    subst hkl
    intro _
    exact ⟨true, .inl rfl, by rw [decide_eq_true (show VA s from ⟨by omega, hmk⟩)], rfl⟩
  have hkl := of_decide_eq_true (show decide (k < s.length) = true from g)
  intro _
  refine call_pure [] (class_ok ((rune s k).1 : Int)) rfl rfl rfl ?_ ?_ ?_
  · (repeat' first | exact trivial | exact rfl | refine And.intro ?_ ?_)
  · (repeat' first | exact trivial | exact rfl | refine And.intro ?_ ?_)
  intro v hv _
  subst hv
  intro _; refine ⟨fun g => ?_, fun g => ?_⟩
  · have g : (cl ((rune s k).1 : Int) == 0) = true := g
    have g : cl ((rune s k).1 : Int) = 0 := by simpa using g
    intro _
    refine ⟨false, .inl rfl, ?_, rfl⟩
    rw [decide_eq_false (fun h : VA s => ?_)]
    refine h.2 k hkl ?_
    by_cases hb : by' s k < 128
    · rw [rune_low hkl hb] at g; exact g
    · exact cl_high (by omega)
  have g : (cl ((rune s k).1 : Int) == 0) = false := g
  have g : cl ((rune s k).1 : Int) ≠ 0 := by simpa using g
  have hb : by' s k < 128 := by
    rcases Int.lt_or_le (by' s k) 128 with h | h
    · exact h
    · exact absurd (cl_high (show (128 : Int) ≤ (rune s k).1 by have := rune_high hkl h; omega)) g
  have er := rune_low hkl hb
  refine ⟨⟨k + 1, by omega, by_succ hmk (by rw [er] at g; exact g)⟩, by simp; omega, th [] 1, rfl, rfl, rfl, rfl, rfl, rfl, ?_, ?_⟩
  · (repeat' first | exact trivial | exact rfl | refine And.intro ?_ ?_)
  · (repeat' first | exact trivial | exact rfl | refine And.intro ?_ ?_)
    show k + 1 = k + (rune s k).2
    rw [er]
/-! what is shown -/
def sh (s : List UInt8) : List UInt8 := s.filter fun b => b != 126
def nums (l : List UInt8) : List Int := l.map fun b => (b.toNat : Int)
theorem nums_back (l : List UInt8) : ((nums l).map fun n => UInt8.ofNat n.toNat) = l := by
  unfold nums
  rw [List.map_map]
  have : ((fun n : Int => UInt8.ofNat n.toNat) ∘ fun b : UInt8 => (b.toNat : Int)) = id := by
    funext b
    simp
  rw [this, List.map_id]
theorem sh_succ {s : List UInt8} {k : Nat} (h : k < s.length) : sh (s.take (k + 1)) = sh (s.take k) ++ (if by' s k = 126 then [] else [s.getD k 0]) := by
  have e : s.getD k 0 = s[k] := by rw [List.getD_eq_getElem?_getD, List.getElem?_eq_getElem h]; rfl
  unfold sh
  rw [List.take_succ_eq_append_getElem h, List.filter_append, ← e]
  congr 1
  unfold by'
  by_cases q : s.getD k 0 = 126
  · rw [q]; rfl
  · have q2 : ¬ ((s.getD k 0).toNat : Int) = 126 := fun h => q (by
      have : (s.getD k 0).toNat = 126 := by omega
      exact UInt8.toNat_inj.1 this)
    rw [if_neg q2]
    have q3 : (s.getD k 0 != 126) = true := by rw [bne_iff_ne]; exact q
    rw [List.filter_cons, if_pos q3]
    rfl
theorem sh_len (s : List UInt8) (k : Nat) : (sh (s.take k)).length ≤ k := by
  unfold sh
  exact Nat.le_trans (List.length_filter_le _ _) (by simp; omega)
theorem nums_len (l : List UInt8) : (nums l).length = l.length := by simp [nums]
theorem nums_app (a b : List UInt8) : nums (a ++ b) = nums a ++ nums b := by simp [nums]
theorem wrap8 (n : Int) : IntKind.u8.wrap n = n % 256 := by
  simp only [IntKind.wrap, IntKind.bits, IntKind.signed, Bool.false_and, Bool.false_eq_true, if_false]
  rfl
theorem shown_ok (s : List UInt8) (hV : VA s) : SemF Try.prog 52 [.str s] ⟨0, 0, []⟩ (fun v _ => v = .str (sh s) ∧ nameless v = true) := by
  have hl := hV.1
  refine enter tt_ok Try.func52 (nt := 23) (cd := body Try.f52) rfl rfl rfl rfl ?_
  intro _
  refine loop2 tt_ok [4, 3] [0] 1 (fun k : { k : Nat // k ≤ s.length } => [(4, .int .i64 (k : Nat)), (3, .grw 0 (sh (s.take k)).length)]) (fun k => [(0, .arr [.int .u8] .grow (.ints (nums (sh (s.take k)))))]) (fun k => s.length - k) ⟨0, by omega⟩ ?_
  intro _
  refine ⟨⟨th [(0, none)] 1, rfl, rfl, rfl, rfl, rfl, rfl, ?_, ?_⟩, ?_⟩
  · (repeat' first | exact trivial | exact rfl | refine And.intro ?_ ?_)
  · (repeat' first | exact trivial | exact rfl | refine And.intro ?_ ?_)
  intro ⟨k, hk⟩
  intro _; refine ⟨fun g => ?_, fun g => ?_⟩
  rotate_left
  · have hkl := of_decide_eq_false (show decide ((k : Int) < (s.length : Int)) = false from g)
    have hkl : k = s.length := by omega
    subst hkl
    intro _; refine ⟨(nums_len _).symm, ?_⟩
    intro _
    refine ⟨?_, rfl⟩
    show V.str ((nums (sh (s.take s.length))).map fun n => UInt8.ofNat n.toNat) = _
    rw [nums_back, List.take_length]
  have hkl := of_decide_eq_true (show decide ((k : Int) < (s.length : Int)) = true from g)
  have hkn : k < s.length := by omega
  have hs := sh_succ hkn
  have hn := sh_len s k
  intro _; refine ⟨show 0 ≤ (k : Int) ∧ (k : Int) < (s.length : Int) by omega, ?_⟩
  intro _; refine ⟨fun g => ?_, fun g => ?_⟩
  rotate_left
  · have g : (by' s k != 126) = false := g
    have g : by' s k = 126 := by simpa using g
    rw [if_pos g, List.append_nil] at hs
    refine ⟨⟨k + 1, by omega⟩, by simp; omega, th [] 1, rfl, rfl, rfl, rfl, rfl, rfl, ?_, ?_⟩
    · (repeat' first | exact trivial | exact rfl | refine And.intro ?_ ?_)
      · exact (wrap_nat k (by omega)).symm
      · rw [hs]; (repeat' first | exact trivial | exact rfl | refine And.intro ?_ ?_)
    · (repeat' first | exact trivial | exact rfl | refine And.intro ?_ ?_)
      rw [hs]; (repeat' first | exact trivial | exact rfl | refine And.intro ?_ ?_)
  have g : (by' s k != 126) = true := g
  have g : ¬ by' s k = 126 := by simpa using g
  rw [if_neg g] at hs
  intro _; refine ⟨show 0 ≤ (k : Int) ∧ (k : Int) < (s.length : Int) by omega, ?_⟩
  intro _; refine ⟨rfl, ?_⟩
  intro _; refine ⟨fun g3 => by simp at g3, fun _ => ?_⟩
  refine ⟨⟨(nums_len _).symm, show (sh (s.take k)).length + 1 ≤ 4611686018427387904 by omega, show ((sh (s.take k)).length + 1) * 1 ≤ 140737488355328 by omega⟩, ?_⟩
  refine ⟨⟨k + 1, by omega⟩, by simp; omega, th [(0, some 2)] 1, rfl, rfl, rfl, rfl, rfl, rfl, ?_, ?_⟩
  · (repeat' first | exact trivial | exact rfl | refine And.intro ?_ ?_)
    · exact (wrap_nat k (by omega)).symm
    · rw [hs, List.length_append]; (repeat' first | exact trivial | exact rfl | refine And.intro ?_ ?_)
  · (repeat' first | exact trivial | exact rfl | refine And.intro ?_ ?_)
    rw [hs, nums_app]
    rfl
def SQ (s : List UInt8) : V := if VA s then .tup [.str (sh s), .int .i64 0] else .tup [.str [], .int .i64 1]
theorem rShown_ok (s : List UInt8) (hl : s.length ≤ 9223372036854775807) : SemF Try.prog 45 [.str s] ⟨0, 0, []⟩ (fun v _ => v = SQ s ∧ nameless v = true) := by
  refine enter tt_ok Try.func45 (nt := 9) (cd := body Try.f45) rfl rfl rfl rfl ?_
  intro _
  refine call_pure [] (rvalid_ok s hl) rfl rfl rfl ?_ ?_ ?_
  · (repeat' first | exact trivial | exact rfl | refine And.intro ?_ ?_)
  · (repeat' first | exact trivial | exact rfl | refine And.intro ?_ ?_)
  intro v hv _
  subst hv
  intro _; refine ⟨fun g => ?_, fun g => ?_⟩
  · have g : (!decide (VA s)) = true := g
    rw [Bool.not_eq_true'] at g
    have g := of_decide_eq_false g
    intro _
    exact ⟨by unfold SQ; rw [if_neg g], rfl⟩
  have g : (!decide (VA s)) = false := g
  rw [Bool.not_eq_false'] at g
  have hV := of_decide_eq_true g
  intro _
  refine call_pure [] (shown_ok s hV) rfl rfl rfl ?_ ?_ ?_
  · (repeat' first | exact trivial | exact rfl | refine And.intro ?_ ?_)
  · (repeat' first | exact trivial | exact rfl | refine And.intro ?_ ?_)
  intro v hv _
  subst hv
  intro _
  exact ⟨by unfold SQ; rw [if_pos hV], rfl⟩
theorem Shown_ok (s : List UInt8) (hl : s.length ≤ 9223372036854775807) : SemF Try.prog 26 [.str s] ⟨0, 0, []⟩ (fun v _ => v = SQ s ∧ nameless v = true) := by
  refine enter tt_ok Try.func26 (nt := 13) (cd := body Try.f26) rfl rfl rfl rfl ?_
  intro _
  refine call_pure [] (valid_ok s hl) rfl rfl rfl ?_ ?_ ?_
  · (repeat' first | exact trivial | exact rfl | refine And.intro ?_ ?_)
  · (repeat' first | exact trivial | exact rfl | refine And.intro ?_ ?_)
  intro v hv _
  subst hv
  intro _; refine ⟨fun g => ?_, fun g => ?_⟩
  · have g : (!decide (VA s)) = true := g
    rw [Bool.not_eq_true'] at g
    have g := of_decide_eq_false g
    intro _
    exact ⟨by unfold SQ; rw [if_neg g], rfl⟩
  have g : (!decide (VA s)) = false := g
  rw [Bool.not_eq_false'] at g
  have hV := of_decide_eq_true g
  intro _
  refine enter tt_ok Try.func29 (nt := 14) (cd := body Try.f29) rfl rfl rfl rfl ?_
  intro _
  refine loop2 tt_ok [] [0, 1, 2] 3 (fun k : { k : Nat // k ≤ s.length } => []) (fun k => [(0, .cells [.grw 2 (sh (s.take k)).length]), (1, .sit s (k : Nat)), (2, .arr [.int .u8] .grow (.ints (nums (sh (s.take k)))))]) (fun k => s.length - k) ⟨0, by omega⟩ ?_
  intro _
  refine ⟨⟨th [(2, none)] 3, rfl, rfl, rfl, rfl, rfl, rfl, ?_, ?_⟩, ?_⟩
  · (repeat' first | exact trivial | exact rfl | refine And.intro ?_ ?_)
  · (repeat' first | exact trivial | exact rfl | refine And.intro ?_ ?_)
  intro ⟨k, hk⟩
  intro _; refine ⟨fun g => ?_, fun g => ?_⟩
  rotate_left
  · have hkl := of_decide_eq_false (show decide (k < s.length) = false from g)
    have hkl : k = s.length := by omega
    subst hkl
    intro _
    intro _; refine ⟨(nums_len _).symm, ?_⟩
    intro _
    refine ⟨?_, rfl⟩
    show V.tup [V.str ((nums (sh (s.take s.length))).map fun n => UInt8.ofNat n.toNat), .int .i64 0] = _
    rw [nums_back, List.take_length]
    unfold SQ
    rw [if_pos hV]
  have hkl := of_decide_eq_true (show decide (k < s.length) = true from g)
  have hb : by' s k < 128 := by
    rcases Int.lt_or_le (by' s k) 128 with h | h
    · exact h
    · exact absurd (cl_high h) (hV.2 k hkl)
  have er := rune_low hkl hb
  have e1 : ((rune s k).1 : Int) = by' s k := by rw [er]; rfl
  have e2 : (rune s k).2 = 1 := by rw [er]
  have h2 := hV.1
  have hs := sh_succ hkl
  have hn := sh_len s k
  intro _
  refine enter tt_ok Try.func44 (nt := 10) (cd := body Try.f44) rfl rfl rfl rfl ?_
  intro _; refine ⟨fun g => ?_, fun g => ?_⟩
  rotate_left
  · have g : (((rune s k).1 : Int) != 126) = false := g
    rw [e1] at g
    have g : by' s k = 126 := by simpa using g
    rw [if_pos g, List.append_nil] at hs
    intro _
    refine ⟨⟨k + 1, by omega⟩, by simp; omega, th [] 3, rfl, rfl, rfl, rfl, rfl, rfl, ?_, ?_⟩
    · (repeat' first | exact trivial | exact rfl | refine And.intro ?_ ?_)
    · (repeat' first | exact trivial | exact rfl | refine And.intro ?_ ?_)
      · rw [hs]; (repeat' first | exact trivial | exact rfl | refine And.intro ?_ ?_)
      · show k + 1 = k + (rune s k).2
        rw [e2]
      · rw [hs]; (repeat' first | exact trivial | exact rfl | refine And.intro ?_ ?_)
  have g : (((rune s k).1 : Int) != 126) = true := g
  rw [e1] at g
  have g : ¬ by' s k = 126 := by simpa using g
  rw [if_neg g] at hs
  intro _; refine ⟨rfl, ?_⟩
  intro _; refine ⟨fun g3 => by simp at g3, fun _ => ?_⟩
  refine ⟨⟨(nums_len _).symm, show (sh (s.take k)).length + 1 ≤ 4611686018427387904 by omega, show ((sh (s.take k)).length + 1) * 1 ≤ 140737488355328 by omega⟩, ?_⟩
  intro _
  refine ⟨⟨k + 1, by omega⟩, by simp; omega, th [(2, some 4)] 3, rfl, rfl, rfl, rfl, rfl, rfl, ?_, ?_⟩
  · (repeat' first | exact trivial | exact rfl | refine And.intro ?_ ?_)
  · (repeat' first | exact trivial | exact rfl | refine And.intro ?_ ?_)
    · rw [hs, List.length_append]; (repeat' first | exact trivial | exact rfl | refine And.intro ?_ ?_)
    · show k + 1 = k + (rune s k).2
      rw [e2]
    · show nums (sh (s.take (k + 1))) = nums (sh (s.take k)) ++ [IntKind.u8.wrap ((rune s k).1 : Int)]
      have hq : by' s k % 256 = by' s k := by unfold by' at hb ⊢; omega
      rw [hs, nums_app, e1, wrap8, hq]
      rfl
/-! words -/
def stw (c : Int × Bool) (b : Int) : Int × Bool := if b = 32 then (c.1, false) else if b ≠ 126 ∧ c.2 = false then (c.1 + 1, true) else c
def wk (s : List UInt8) : Nat → Int × Bool
  | 0 => (0, false)
  | k + 1 => stw (wk s k) (by' s k)
theorem wk_bd (s : List UInt8) : ∀ k, 0 ≤ (wk s k).1 ∧ (wk s k).1 ≤ k
  | 0 => by simp [wk]
  | k + 1 => by
    have := wk_bd s k
    simp only [wk, stw]
    split
    · simp only []; omega
    · split
      · simp only []; omega
      · omega
def WQ (s : List UInt8) : V := if VA s then .tup [.int .i64 (wk s s.length).1, .int .i64 0] else .tup [.int .i64 0, .int .i64 1]
theorem words_ok (s : List UInt8) (hl : s.length ≤ 9223372036854775807) : SemF Try.prog 19 [.str s] ⟨0, 0, []⟩ (fun v _ => v = WQ s ∧ nameless v = true) := by
  refine enter tt_ok Try.func19 (nt := 13) (cd := body Try.f19) rfl rfl rfl rfl ?_
  intro _
  refine call_pure [] (valid_ok s hl) rfl rfl rfl ?_ ?_ ?_
  · (repeat' first | exact trivial | exact rfl | refine And.intro ?_ ?_)
  · (repeat' first | exact trivial | exact rfl | refine And.intro ?_ ?_)
  intro v hv _
  subst hv
  intro _; refine ⟨fun g => ?_, fun g => ?_⟩
  · have g : (!decide (VA s)) = true := g
    rw [Bool.not_eq_true'] at g
    have g := of_decide_eq_false g
    intro _
    exact ⟨by unfold WQ; rw [if_neg g], rfl⟩
  have g : (!decide (VA s)) = false := g
  rw [Bool.not_eq_false'] at g
  have hV := of_decide_eq_true g
  intro _
  refine enter tt_ok Try.func29 (nt := 14) (cd := body Try.f29) rfl rfl rfl rfl ?_
  intro _
  refine loop2 tt_ok [] [0, 1, 2] 3 (fun k : { k : Nat // k ≤ s.length } => []) (fun k => [(0, .cells [.int .i64 (wk s k).1]), (1, .cells [.test (wk s k).2]), (2, .sit s (k : Nat))]) (fun k => s.length - k) ⟨0, by omega⟩ ?_
  intro _
  refine ⟨⟨th [] 3, rfl, rfl, rfl, rfl, rfl, rfl, ?_, ?_⟩, ?_⟩
  · (repeat' first | exact trivial | exact rfl | refine And.intro ?_ ?_)
  · (repeat' first | exact trivial | exact rfl | refine And.intro ?_ ?_)
  intro ⟨k, hk⟩
  intro _; refine ⟨fun g => ?_, fun g => ?_⟩
  rotate_left
  · have hkl := of_decide_eq_false (show decide (k < s.length) = false from g)
    have hkl : k = s.length := by omega
    subst hkl
    intro _
    intro _
    refine ⟨?_, rfl⟩
    unfold WQ
    rw [if_pos hV]
  have hkl := of_decide_eq_true (show decide (k < s.length) = true from g)
  have hb : by' s k < 128 := by
    rcases Int.lt_or_le (by' s k) 128 with h | h
    · exact h
    · exact absurd (cl_high h) (hV.2 k hkl)
  have er := rune_low hkl hb
  have e1 : ((rune s k).1 : Int) = by' s k := by rw [er]; rfl
  have e2 : (rune s k).2 = 1 := by rw [er]
  have wb := wk_bd s k
  have h2 := hV.1
  intro _
  refine enter tt_ok Try.func30 (nt := 16) (cd := body Try.f30) rfl rfl rfl rfl ?_
  intro _; refine ⟨fun g => ?_, fun g => ?_⟩
  · have g : (((rune s k).1 : Int) == 32) = true := g
    rw [e1] at g
    have g : by' s k = 32 := by simpa using g
    intro _
    refine ⟨⟨k + 1, by omega⟩, by simp; omega, th [] 3, rfl, rfl, rfl, rfl, rfl, rfl, ?_, ?_⟩
    · (repeat' first | exact trivial | exact rfl | refine And.intro ?_ ?_)
    · (repeat' first | exact trivial | exact rfl | refine And.intro ?_ ?_)
      · show (stw (wk s k) (by' s k)).1 = (wk s k).1
        unfold stw; rw [if_pos g]
      · show (stw (wk s k) (by' s k)).2 = false
        unfold stw; rw [if_pos g]
      · show k + 1 = k + (rune s k).2
        rw [e2]
  have g : (((rune s k).1 : Int) == 32) = false := g
  rw [e1] at g
  have g32 : ¬ by' s k = 32 := by simpa using g
  intro _; refine ⟨fun g => ?_, fun g => ?_⟩
  rotate_left
  · have g : (((rune s k).1 : Int) != 126) = false := g
    rw [e1] at g
    have g : by' s k = 126 := by simpa using g
    intro _
    refine ⟨⟨k + 1, by omega⟩, by simp; omega, th [] 3, rfl, rfl, rfl, rfl, rfl, rfl, ?_, ?_⟩
    · (repeat' first | exact trivial | exact rfl | refine And.intro ?_ ?_)
    · (repeat' first | exact trivial | exact rfl | refine And.intro ?_ ?_)
      · show (stw (wk s k) (by' s k)).1 = (wk s k).1
        unfold stw; rw [if_neg g32, if_neg (fun h => h.1 g)]
      · show (stw (wk s k) (by' s k)).2 = (wk s k).2
        unfold stw; rw [if_neg g32, if_neg (fun h => h.1 g)]
      · show k + 1 = k + (rune s k).2
        rw [e2]
  have g : (((rune s k).1 : Int) != 126) = true := g
  rw [e1] at g
  have g126 : by' s k ≠ 126 := by simpa using g
  intro _; refine ⟨fun g => ?_, fun g => ?_⟩
  · have g : (!(wk s k).2) = true := g
    have g : (wk s k).2 = false := by simpa using g
    intro _
    refine ⟨⟨k + 1, by omega⟩, by simp; omega, th [] 3, rfl, rfl, rfl, rfl, rfl, rfl, ?_, ?_⟩
    · (repeat' first | exact trivial | exact rfl | refine And.intro ?_ ?_)
    · (repeat' first | exact trivial | exact rfl | refine And.intro ?_ ?_)
      · show (stw (wk s k) (by' s k)).1 = IntKind.i64.wrap ((wk s k).1 + 1)
        unfold stw; rw [if_neg g32, if_pos ⟨g126, g⟩, wrapS _ ⟨by omega, by omega⟩]
      · show (stw (wk s k) (by' s k)).2 = true
        unfold stw; rw [if_neg g32, if_pos ⟨g126, g⟩]
      · show k + 1 = k + (rune s k).2
        rw [e2]
  · have g : (!(wk s k).2) = false := g
    have g : (wk s k).2 = true := by simpa using g
    intro _
    refine ⟨⟨k + 1, by omega⟩, by simp; omega, th [] 3, rfl, rfl, rfl, rfl, rfl, rfl, ?_, ?_⟩
    · (repeat' first | exact trivial | exact rfl | refine And.intro ?_ ?_)
    · (repeat' first | exact trivial | exact rfl | refine And.intro ?_ ?_)
      · show (stw (wk s k) (by' s k)).1 = (wk s k).1
        unfold stw; rw [if_neg g32, if_neg (fun h => by rw [g] at h; exact absurd h.2 (by simp))]
      · show (stw (wk s k) (by' s k)).2 = (wk s k).2
        unfold stw; rw [if_neg g32, if_neg (fun h => by rw [g] at h; exact absurd h.2 (by simp))]
      · show k + 1 = k + (rune s k).2
        rw [e2]
def trL : Nat → List UInt8 → List UInt8
  | 0, l => l
  | n + 1, l => if 0 < l.length ∧ by' l 0 = 32 then trL n (l.drop 1) else l
def trR : Nat → List UInt8 → List UInt8
  | 0, l => l
  | n + 1, l => if 0 < l.length ∧ by' l (l.length - 1) = 32 then trR n (l.take (l.length - 1)) else l
def tr (s : List UInt8) : List UInt8 := trR 2000 (trL 2000 s)
theorem trL_le : ∀ (n : Nat) (l : List UInt8), (trL n l).length ≤ l.length
  | 0, l => Nat.le_refl _
  | n + 1, l => by
    simp only [trL]
    split
    · exact Nat.le_trans (trL_le n _) (by simp)
    · exact Nat.le_refl _
def TQ (s : List UInt8) : V := if VA s then .tup [.str (tr s), .int .i64 0] else .tup [.str [], .int .i64 1]
theorem cut_lo (l : List UInt8) : (l.drop (1 : Int).toNat).take (((l.length : Int)).toNat - (1 : Int).toNat) = l.drop 1 := by
  rw [List.take_of_length_le]
  · rfl
  · simp
theorem cut_hi (l : List UInt8) (n : Int) : (l.drop (0 : Int).toNat).take (n.toNat - (0 : Int).toNat) = l.take n.toNat := by
  simp
theorem Trim_ok (s : List UInt8) (hl : s.length ≤ 9223372036854775807) : SemF Try.prog 27 [.str s] ⟨0, 0, []⟩ (fun v _ => v = TQ s ∧ nameless v = true) := by
  refine enter tt_ok Try.func27 (nt := 34) (cd := body Try.f27) rfl rfl rfl rfl ?_
  intro _
  refine call_pure [] (valid_ok s hl) rfl rfl rfl ?_ ?_ ?_
  · (repeat' first | exact trivial | exact rfl | refine And.intro ?_ ?_)
  · (repeat' first | exact trivial | exact rfl | refine And.intro ?_ ?_)
  intro v hv _
  subst hv
  intro _; refine ⟨fun g => ?_, fun g => ?_⟩
  · have g : (!decide (VA s)) = true := g
    rw [Bool.not_eq_true'] at g
    have g := of_decide_eq_false g
    intro _
    exact ⟨by unfold TQ; rw [if_neg g], rfl⟩
  have g : (!decide (VA s)) = false := g
  rw [Bool.not_eq_false'] at g
  have hV := of_decide_eq_true g
  intro _
  refine loop2 tt_ok [0] [] 0 (fun k : { p : Nat × List UInt8 // p.2.length ≤ p.1 ∧ p.1 ≤ 2000 ∧ trL p.1 p.2 = trL 2000 s } => [(0, .str k.1.2)]) (fun _ => []) (fun k => k.1.1) ⟨(2000, s), hV.1, Nat.le_refl _, rfl⟩ ?_
  intro _
  refine ⟨⟨th [] 0, rfl, rfl, rfl, rfl, rfl, rfl, ?_, ?_⟩, ?_⟩
  · (repeat' first | exact trivial | exact rfl | refine And.intro ?_ ?_)
  · (repeat' first | exact trivial | exact rfl | refine And.intro ?_ ?_)
  intro ⟨⟨n, l⟩, hn, h2, ht⟩
  simp only [] at hn h2 ht
  have done1 : ¬ (0 < l.length ∧ by' l 0 = 32) → l = trL 2000 s := fun h => by
    rw [← ht]
    cases n with
    | zero => rfl
    | succ n => simp only [trL]; rw [if_neg h]
  intro _; refine ⟨fun g => ?_, fun g => ?_⟩
  rotate_left
  · have g := of_decide_eq_false (show decide ((l.length : Int) > 0) = false from g)
    have hd := done1 (fun h => by omega)
    intro _
    refine loop2 tt_ok [0] [] 0 (fun k : { p : Nat × List UInt8 // p.2.length ≤ p.1 ∧ p.1 ≤ 2000 ∧ trR p.1 p.2 = tr s } => [(0, .str k.1.2)]) (fun _ => []) (fun k => k.1.1) ⟨(2000, l), by have := trL_le 2000 s; rw [← hd] at this; have := hV.1; simp only []; omega, Nat.le_refl _, by rw [hd]; rfl⟩ ?_
    intro _
    refine ⟨⟨th [] 0, rfl, rfl, rfl, rfl, rfl, rfl, ?_, ?_⟩, ?_⟩
    · (repeat' first | exact trivial | exact rfl | refine And.intro ?_ ?_)
    · (repeat' first | exact trivial | exact rfl | refine And.intro ?_ ?_)
    intro ⟨⟨n, l⟩, hn, h2, ht⟩
    simp only [] at hn h2 ht
    have done2 : ¬ (0 < l.length ∧ by' l (l.length - 1) = 32) → TQ s = .tup [.str l, .int .i64 0] := fun h => by
      unfold TQ
      rw [if_pos hV, ← ht]
      cases n with
      | zero => rfl
      | succ n => simp only [trR]; rw [if_neg h]
    intro _; refine ⟨fun g => ?_, fun g => ?_⟩
    rotate_left
    · have g := of_decide_eq_false (show decide ((l.length : Int) > 0) = false from g)
      intro _
      exact ⟨(done2 (fun h => by omega)).symm, rfl⟩
    have g1 := of_decide_eq_true (show decide ((l.length : Int) > 0) = true from g)
    have eW : IntKind.i64.wrap ((l.length : Int) - 1) = ((l.length - 1 : Nat) : Int) := by rw [wrapS _ ⟨by omega, by have := hV.1; omega⟩]; omega
    intro _; refine ⟨show 0 ≤ IntKind.i64.wrap ((l.length : Int) - 1) ∧ IntKind.i64.wrap ((l.length : Int) - 1) < (l.length : Int) by rw [eW]; omega, ?_⟩
    intro _; refine ⟨fun g => ?_, fun g => ?_⟩
    rotate_left
    · have g : (by' l (IntKind.i64.wrap ((l.length : Int) - 1)).toNat == 32) = false := g
      rw [eW] at g
      have g : ¬ by' l (l.length - 1) = 32 := by simpa using g
      intro _
      exact ⟨(done2 (fun h => g h.2)).symm, rfl⟩
    have g : (by' l (IntKind.i64.wrap ((l.length : Int) - 1)).toNat == 32) = true := g
    rw [eW] at g
    have gz : by' l (l.length - 1) = 32 := by simpa using g
    intro _; refine ⟨show 0 ≤ (0 : Int) ∧ (0 : Int) ≤ IntKind.i64.wrap ((l.length : Int) - 1) ∧ IntKind.i64.wrap ((l.length : Int) - 1) ≤ (l.length : Int) by rw [eW]; omega, ?_⟩
    cases n with
    | zero => omega
    | succ n =>
      refine ⟨⟨(n, l.take (l.length - 1)), by simp; omega, by omega, ?_⟩, by simp, th [] 0, rfl, rfl, rfl, rfl, rfl, rfl, ?_, ?_⟩
      · rw [← ht]
        simp only [trR]
        rw [if_pos ⟨by omega, gz⟩]
      · (repeat' first | exact trivial | exact rfl | refine And.intro ?_ ?_)
        show l.take (l.length - 1) = (l.drop (0 : Int).toNat).take ((IntKind.i64.wrap ((l.length : Int) - 1)).toNat - (0 : Int).toNat)
        rw [cut_hi, eW]
        rfl
      · (repeat' first | exact trivial | exact rfl | refine And.intro ?_ ?_)
  have g1 := of_decide_eq_true (show decide ((l.length : Int) > 0) = true from g)
  intro _; refine ⟨show 0 ≤ (0 : Int) ∧ (0 : Int) < (l.length : Int) by omega, ?_⟩
  intro _; refine ⟨fun g => ?_, fun g => ?_⟩
  rotate_left
  · have g : (by' l 0 == 32) = false := g
    have g : ¬ by' l 0 = 32 := by simpa using g
    have hd := done1 (fun h => g h.2)
    intro _
    refine loop2 tt_ok [0] [] 0 (fun k : { p : Nat × List UInt8 // p.2.length ≤ p.1 ∧ p.1 ≤ 2000 ∧ trR p.1 p.2 = tr s } => [(0, .str k.1.2)]) (fun _ => []) (fun k => k.1.1) ⟨(2000, l), by have := trL_le 2000 s; rw [← hd] at this; have := hV.1; simp only []; omega, Nat.le_refl _, by rw [hd]; rfl⟩ ?_
    intro _
    refine ⟨⟨th [] 0, rfl, rfl, rfl, rfl, rfl, rfl, ?_, ?_⟩, ?_⟩
    · (repeat' first | exact trivial | exact rfl | refine And.intro ?_ ?_)
    · (repeat' first | exact trivial | exact rfl | refine And.intro ?_ ?_)
    intro ⟨⟨n, l⟩, hn, h2, ht⟩
    simp only [] at hn h2 ht
    have done2 : ¬ (0 < l.length ∧ by' l (l.length - 1) = 32) → TQ s = .tup [.str l, .int .i64 0] := fun h => by
      unfold TQ
      rw [if_pos hV, ← ht]
      cases n with
      | zero => rfl
      | succ n => simp only [trR]; rw [if_neg h]
    intro _; refine ⟨fun g => ?_, fun g => ?_⟩
    rotate_left
    · have g := of_decide_eq_false (show decide ((l.length : Int) > 0) = false from g)
      intro _
      exact ⟨(done2 (fun h => by omega)).symm, rfl⟩
    have g1 := of_decide_eq_true (show decide ((l.length : Int) > 0) = true from g)
    have eW : IntKind.i64.wrap ((l.length : Int) - 1) = ((l.length - 1 : Nat) : Int) := by rw [wrapS _ ⟨by omega, by have := hV.1; omega⟩]; omega
    intro _; refine ⟨show 0 ≤ IntKind.i64.wrap ((l.length : Int) - 1) ∧ IntKind.i64.wrap ((l.length : Int) - 1) < (l.length : Int) by rw [eW]; omega, ?_⟩
    intro _; refine ⟨fun g => ?_, fun g => ?_⟩
    rotate_left
    · have g : (by' l (IntKind.i64.wrap ((l.length : Int) - 1)).toNat == 32) = false := g
      rw [eW] at g
      have g : ¬ by' l (l.length - 1) = 32 := by simpa using g
      intro _
      exact ⟨(done2 (fun h => g h.2)).symm, rfl⟩
    have g : (by' l (IntKind.i64.wrap ((l.length : Int) - 1)).toNat == 32) = true := g
    rw [eW] at g
    have gz : by' l (l.length - 1) = 32 := by simpa using g
    intro _; refine ⟨show 0 ≤ (0 : Int) ∧ (0 : Int) ≤ IntKind.i64.wrap ((l.length : Int) - 1) ∧ IntKind.i64.wrap ((l.length : Int) - 1) ≤ (l.length : Int) by rw [eW]; omega, ?_⟩
    cases n with
    | zero => omega
    | succ n =>
      refine ⟨⟨(n, l.take (l.length - 1)), by simp; omega, by omega, ?_⟩, by simp, th [] 0, rfl, rfl, rfl, rfl, rfl, rfl, ?_, ?_⟩
      · rw [← ht]
        simp only [trR]
        rw [if_pos ⟨by omega, gz⟩]
      · (repeat' first | exact trivial | exact rfl | refine And.intro ?_ ?_)
        show l.take (l.length - 1) = (l.drop (0 : Int).toNat).take ((IntKind.i64.wrap ((l.length : Int) - 1)).toNat - (0 : Int).toNat)
        rw [cut_hi, eW]
        rfl
      · (repeat' first | exact trivial | exact rfl | refine And.intro ?_ ?_)
  have g : (by' l 0 == 32) = true := g
  have gz : by' l 0 = 32 := by simpa using g
  intro _; refine ⟨show 0 ≤ (1 : Int) ∧ (1 : Int) ≤ (l.length : Int) ∧ (l.length : Int) ≤ (l.length : Int) by omega, ?_⟩
  cases n with
  | zero => omega
  | succ n =>
    refine ⟨⟨(n, l.drop 1), by simp; omega, by omega, ?_⟩, by simp, th [] 0, rfl, rfl, rfl, rfl, rfl, rfl, ?_, ?_⟩
    · rw [← ht]
      simp only [trL]
      rw [if_pos ⟨by omega, gz⟩]
    · (repeat' first | exact trivial | exact rfl | refine And.intro ?_ ?_)
      exact (cut_lo l).symm
    · (repeat' first | exact trivial | exact rfl | refine And.intro ?_ ?_)
theorem rTrim_ok (s : List UInt8) (hl : s.length ≤ 9223372036854775807) : SemF Try.prog 46 [.str s] ⟨0, 0, []⟩ (fun v _ => v = TQ s ∧ nameless v = true) := by
  refine enter tt_ok Try.func46 (nt := 34) (cd := body Try.f46) rfl rfl rfl rfl ?_
  intro _
  refine call_pure [] (rvalid_ok s hl) rfl rfl rfl ?_ ?_ ?_
  · (repeat' first | exact trivial | exact rfl | refine And.intro ?_ ?_)
  · (repeat' first | exact trivial | exact rfl | refine And.intro ?_ ?_)
  intro v hv _
  subst hv
  intro _; refine ⟨fun g => ?_, fun g => ?_⟩
  · have g : (!decide (VA s)) = true := g
    rw [Bool.not_eq_true'] at g
    have g := of_decide_eq_false g
    intro _
    exact ⟨by unfold TQ; rw [if_neg g], rfl⟩
  have g : (!decide (VA s)) = false := g
  rw [Bool.not_eq_false'] at g
  have hV := of_decide_eq_true g
  intro _
  refine loop2 tt_ok [0] [] 0 (fun k : { p : Nat × List UInt8 // p.2.length ≤ p.1 ∧ p.1 ≤ 2000 ∧ trL p.1 p.2 = trL 2000 s } => [(0, .str k.1.2)]) (fun _ => []) (fun k => k.1.1) ⟨(2000, s), hV.1, Nat.le_refl _, rfl⟩ ?_
  intro _
  refine ⟨⟨th [] 0, rfl, rfl, rfl, rfl, rfl, rfl, ?_, ?_⟩, ?_⟩
  · (repeat' first | exact trivial | exact rfl | refine And.intro ?_ ?_)
  · (repeat' first | exact trivial | exact rfl | refine And.intro ?_ ?_)
  intro ⟨⟨n, l⟩, hn, h2, ht⟩
  simp only [] at hn h2 ht
  have done1 : ¬ (0 < l.length ∧ by' l 0 = 32) → l = trL 2000 s := fun h => by
    rw [← ht]
    cases n with
    | zero => rfl
    | succ n => simp only [trL]; rw [if_neg h]
  intro _; refine ⟨fun g => ?_, fun g => ?_⟩
  rotate_left
  · have g := of_decide_eq_false (show decide ((l.length : Int) > 0) = false from g)
    have hd := done1 (fun h => by omega)
    intro _
    refine loop2 tt_ok [0] [] 0 (fun k : { p : Nat × List UInt8 // p.2.length ≤ p.1 ∧ p.1 ≤ 2000 ∧ trR p.1 p.2 = tr s } => [(0, .str k.1.2)]) (fun _ => []) (fun k => k.1.1) ⟨(2000, l), by have := trL_le 2000 s; rw [← hd] at this; have := hV.1; simp only []; omega, Nat.le_refl _, by rw [hd]; rfl⟩ ?_
    intro _
    refine ⟨⟨th [] 0, rfl, rfl, rfl, rfl, rfl, rfl, ?_, ?_⟩, ?_⟩
    · (repeat' first | exact trivial | exact rfl | refine And.intro ?_ ?_)
    · (repeat' first | exact trivial | exact rfl | refine And.intro ?_ ?_)
    intro ⟨⟨n, l⟩, hn, h2, ht⟩
    simp only [] at hn h2 ht
    have done2 : ¬ (0 < l.length ∧ by' l (l.length - 1) = 32) → TQ s = .tup [.str l, .int .i64 0] := fun h => by
      unfold TQ
      rw [if_pos hV, ← ht]
      cases n with
      | zero => rfl
      | succ n => simp only [trR]; rw [if_neg h]
    intro _; refine ⟨fun g => ?_, fun g => ?_⟩
    rotate_left
    · have g := of_decide_eq_false (show decide ((l.length : Int) > 0) = false from g)
      intro _
      exact ⟨(done2 (fun h => by omega)).symm, rfl⟩
    have g1 := of_decide_eq_true (show decide ((l.length : Int) > 0) = true from g)
    have eW : IntKind.i64.wrap ((l.length : Int) - 1) = ((l.length - 1 : Nat) : Int) := by rw [wrapS _ ⟨by omega, by have := hV.1; omega⟩]; omega
    intro _; refine ⟨show 0 ≤ IntKind.i64.wrap ((l.length : Int) - 1) ∧ IntKind.i64.wrap ((l.length : Int) - 1) < (l.length : Int) by rw [eW]; omega, ?_⟩
    intro _; refine ⟨fun g => ?_, fun g => ?_⟩
    rotate_left
    · have g : (by' l (IntKind.i64.wrap ((l.length : Int) - 1)).toNat == 32) = false := g
      rw [eW] at g
      have g : ¬ by' l (l.length - 1) = 32 := by simpa using g
      intro _
      exact ⟨(done2 (fun h => g h.2)).symm, rfl⟩
    have g : (by' l (IntKind.i64.wrap ((l.length : Int) - 1)).toNat == 32) = true := g
    rw [eW] at g
    have gz : by' l (l.length - 1) = 32 := by simpa using g
    intro _; refine ⟨show 0 ≤ (0 : Int) ∧ (0 : Int) ≤ IntKind.i64.wrap ((l.length : Int) - 1) ∧ IntKind.i64.wrap ((l.length : Int) - 1) ≤ (l.length : Int) by rw [eW]; omega, ?_⟩
    cases n with
    | zero => omega
    | succ n =>
      refine ⟨⟨(n, l.take (l.length - 1)), by simp; omega, by omega, ?_⟩, by simp, th [] 0, rfl, rfl, rfl, rfl, rfl, rfl, ?_, ?_⟩
      · rw [← ht]
        simp only [trR]
        rw [if_pos ⟨by omega, gz⟩]
      · (repeat' first | exact trivial | exact rfl | refine And.intro ?_ ?_)
        show l.take (l.length - 1) = (l.drop (0 : Int).toNat).take ((IntKind.i64.wrap ((l.length : Int) - 1)).toNat - (0 : Int).toNat)
        rw [cut_hi, eW]
        rfl
      · (repeat' first | exact trivial | exact rfl | refine And.intro ?_ ?_)
  have g1 := of_decide_eq_true (show decide ((l.length : Int) > 0) = true from g)
  intro _; refine ⟨show 0 ≤ (0 : Int) ∧ (0 : Int) < (l.length : Int) by omega, ?_⟩
  intro _; refine ⟨fun g => ?_, fun g => ?_⟩
  rotate_left
  · have g : (by' l 0 == 32) = false := g
    have g : ¬ by' l 0 = 32 := by simpa using g
    have hd := done1 (fun h => g h.2)
    intro _
    refine loop2 tt_ok [0] [] 0 (fun k : { p : Nat × List UInt8 // p.2.length ≤ p.1 ∧ p.1 ≤ 2000 ∧ trR p.1 p.2 = tr s } => [(0, .str k.1.2)]) (fun _ => []) (fun k => k.1.1) ⟨(2000, l), by have := trL_le 2000 s; rw [← hd] at this; have := hV.1; simp only []; omega, Nat.le_refl _, by rw [hd]; rfl⟩ ?_
    intro _
    refine ⟨⟨th [] 0, rfl, rfl, rfl, rfl, rfl, rfl, ?_, ?_⟩, ?_⟩
    · (repeat' first | exact trivial | exact rfl | refine And.intro ?_ ?_)
    · (repeat' first | exact trivial | exact rfl | refine And.intro ?_ ?_)
    intro ⟨⟨n, l⟩, hn, h2, ht⟩
    simp only [] at hn h2 ht
    have done2 : ¬ (0 < l.length ∧ by' l (l.length - 1) = 32) → TQ s = .tup [.str l, .int .i64 0] := fun h => by
      unfold TQ
      rw [if_pos hV, ← ht]
      cases n with
      | zero => rfl
      | succ n => simp only [trR]; rw [if_neg h]
    intro _; refine ⟨fun g => ?_, fun g => ?_⟩
    rotate_left
    · have g := of_decide_eq_false (show decide ((l.length : Int) > 0) = false from g)
      intro _
      exact ⟨(done2 (fun h => by omega)).symm, rfl⟩
    have g1 := of_decide_eq_true (show decide ((l.length : Int) > 0) = true from g)
    have eW : IntKind.i64.wrap ((l.length : Int) - 1) = ((l.length - 1 : Nat) : Int) := by rw [wrapS _ ⟨by omega, by have := hV.1; omega⟩]; omega
    intro _; refine ⟨show 0 ≤ IntKind.i64.wrap ((l.length : Int) - 1) ∧ IntKind.i64.wrap ((l.length : Int) - 1) < (l.length : Int) by rw [eW]; omega, ?_⟩
    intro _; refine ⟨fun g => ?_, fun g => ?_⟩
    rotate_left
    · have g : (by' l (IntKind.i64.wrap ((l.length : Int) - 1)).toNat == 32) = false := g
      rw [eW] at g
      have g : ¬ by' l (l.length - 1) = 32 := by simpa using g
      intro _
      exact ⟨(done2 (fun h => g h.2)).symm, rfl⟩
    have g : (by' l (IntKind.i64.wrap ((l.length : Int) - 1)).toNat == 32) = true := g
    rw [eW] at g
    have gz : by' l (l.length - 1) = 32 := by simpa using g
    intro _; refine ⟨show 0 ≤ (0 : Int) ∧ (0 : Int) ≤ IntKind.i64.wrap ((l.length : Int) - 1) ∧ IntKind.i64.wrap ((l.length : Int) - 1) ≤ (l.length : Int) by rw [eW]; omega, ?_⟩
    cases n with
    | zero => omega
    | succ n =>
      refine ⟨⟨(n, l.take (l.length - 1)), by simp; omega, by omega, ?_⟩, by simp, th [] 0, rfl, rfl, rfl, rfl, rfl, rfl, ?_, ?_⟩
      · rw [← ht]
        simp only [trR]
        rw [if_pos ⟨by omega, gz⟩]
      · (repeat' first | exact trivial | exact rfl | refine And.intro ?_ ?_)
        show l.take (l.length - 1) = (l.drop (0 : Int).toNat).take ((IntKind.i64.wrap ((l.length : Int) - 1)).toNat - (0 : Int).toNat)
        rw [cut_hi, eW]
        rfl
      · (repeat' first | exact trivial | exact rfl | refine And.intro ?_ ?_)
  have g : (by' l 0 == 32) = true := g
  have gz : by' l 0 = 32 := by simpa using g
  intro _; refine ⟨show 0 ≤ (1 : Int) ∧ (1 : Int) ≤ (l.length : Int) ∧ (l.length : Int) ≤ (l.length : Int) by omega, ?_⟩
  cases n with
  | zero => omega
  | succ n =>
    refine ⟨⟨(n, l.drop 1), by simp; omega, by omega, ?_⟩, by simp, th [] 0, rfl, rfl, rfl, rfl, rfl, rfl, ?_, ?_⟩
    · rw [← ht]
      simp only [trL]
      rw [if_pos ⟨by omega, gz⟩]
    · (repeat' first | exact trivial | exact rfl | refine And.intro ?_ ?_)
      exact (cut_lo l).symm
    · (repeat' first | exact trivial | exact rfl | refine And.intro ?_ ?_)
theorem Class_ok (n : Int) (h : 0 ≤ n ∧ n ≤ 255) : SemF Try.prog 24 [.int .u8 n] ⟨0, 0, []⟩ (fun v _ => v = .int .i64 (cl n) ∧ nameless v = true) := by
  refine enter tt_ok Try.func24 (nt := 6) (cd := body Try.f24) rfl rfl rfl rfl ?_
  intro _
  have e : IntKind.i32.wrap n = n := by
    rw [IntKind.wrap_i32]; omega
  refine call_pure [] (class_ok (IntKind.i32.wrap n)) rfl rfl rfl ?_ ?_ ?_
  · (repeat' first | exact trivial | exact rfl | refine And.intro ?_ ?_)
  · (repeat' first | exact trivial | exact rfl | refine And.intro ?_ ?_)
  intro v hv _
  subst hv
  intro _
  exact ⟨by rw [e], rfl⟩
set_option maxRecDepth 100000
theorem SemF.seen {fid : FuncId} {args : List V} {h : H} {K : V → H → Prop} (hs : SemF Try.prog fid args h (fun v h' => ∃ v', (∀ n ν a, Cv n ν v a → Cv n ν v' a) ∧ K v' h')) : SemF Try.prog fid args h K := by
  refine ⟨fun c ν s «as» r has => ?_⟩
  obtain ⟨N, a, s', v, h', ν', q1, ⟨v', hv, hk⟩, q3, q4, q5⟩ := hs.run c ν s «as» r has
  exact ⟨N, a, s', v', h', ν', q1, hk, q3, hv _ _ _ q4, q5⟩
theorem step_all {p : Nat → Prop} {i : Nat} (h : ∀ j, j < i → p j) (e : p i) : ∀ j, j < i + 1 → p j := fun j hj => by
  rcases Nat.lt_or_ge j i with q | q
  · exact h j q
  · have : j = i := by omega
    subst this; exact e
theorem by_range (s : List UInt8) (i : Nat) : 0 ≤ by' s i ∧ by' s i ≤ 255 := by
  unfold by'
  have := (s.getD i 0).toNat_lt
  omega
theorem cl_bd (n : Int) : 0 ≤ cl n ∧ cl n ≤ 6 := by unfold cl; (repeat' split) <;> omega
theorem cl_1 {n : Int} : cl n = 1 ↔ 97 ≤ n ∧ n ≤ 122 := by unfold cl; (repeat' split) <;> omega
theorem cl_6 {n : Int} : cl n = 6 ↔ n = 126 := by unfold cl; (repeat' split) <;> omega
theorem cl_4 {n : Int} : cl n = 4 ↔ n = 32 := by unfold cl; (repeat' split) <;> omega
/-! letters and digits -/
def isL (b : Int) : Prop := 1 ≤ cl b ∧ cl b ≤ 2
instance decL (b : Int) : Decidable (isL b) := inferInstanceAs (Decidable (_ ∧ _))
def isW (b : Int) : Prop := 1 ≤ cl b ∧ cl b ≤ 3
instance decW (b : Int) : Decidable (isW b) := inferInstanceAs (Decidable (_ ∧ _))
theorem isL_ok (b : Int) (h : 0 ≤ b ∧ b ≤ 255) : SemF Try.prog 35 [.int .u8 b] ⟨0, 0, []⟩ (fun v _ => v = .test (decide (isL b)) ∧ nameless v = true) := by
  refine SemF.test ?_
  refine enter tt_ok Try.func35 (nt := 11) (cd := body Try.f35) rfl rfl rfl rfl ?_
  intro _
  refine call_pure [] (Class_ok b h) rfl rfl rfl ?_ ?_ ?_
  · (repeat' first | exact trivial | exact rfl | refine And.intro ?_ ?_)
  · (repeat' first | exact trivial | exact rfl | refine And.intro ?_ ?_)
  intro v hv _
  subst hv
  intro _; refine ⟨fun g => ?_, fun g => ?_⟩
  · have g := of_decide_eq_true (show decide (cl b ≥ 1) = true from g)
    intro _
    refine call_pure [] (Class_ok b h) rfl rfl rfl ?_ ?_ ?_
    · (repeat' first | exact trivial | exact rfl | refine And.intro ?_ ?_)
    · (repeat' first | exact trivial | exact rfl | refine And.intro ?_ ?_)
    intro v hv _
    subst hv
    intro _
    refine ⟨decide (cl b ≤ 2), .inr rfl, ?_, rfl⟩
    congr 1
    exact decide_eq_decide.2 ⟨fun q => ⟨g, q⟩, fun q => q.2⟩
  have g := of_decide_eq_false (show decide (cl b ≥ 1) = false from g)
  intro _
  exact ⟨false, .inl rfl, by rw [decide_eq_false (fun q : isL b => g q.1)], rfl⟩
theorem isW_ok (b : Int) (h : 0 ≤ b ∧ b ≤ 255) : SemF Try.prog 34 [.int .u8 b] ⟨0, 0, []⟩ (fun v _ => v = .test (decide (isW b)) ∧ nameless v = true) := by
  refine SemF.test ?_
  refine enter tt_ok Try.func34 (nt := 11) (cd := body Try.f34) rfl rfl rfl rfl ?_
  intro _
  refine call_pure [] (Class_ok b h) rfl rfl rfl ?_ ?_ ?_
  · (repeat' first | exact trivial | exact rfl | refine And.intro ?_ ?_)
  · (repeat' first | exact trivial | exact rfl | refine And.intro ?_ ?_)
  intro v hv _
  subst hv
  intro _; refine ⟨fun g => ?_, fun g => ?_⟩
  · have g := of_decide_eq_true (show decide (cl b ≥ 1) = true from g)
    intro _
    refine call_pure [] (Class_ok b h) rfl rfl rfl ?_ ?_ ?_
    · (repeat' first | exact trivial | exact rfl | refine And.intro ?_ ?_)
    · (repeat' first | exact trivial | exact rfl | refine And.intro ?_ ?_)
    intro v hv _
    subst hv
    intro _
    refine ⟨decide (cl b ≤ 3), .inr rfl, ?_, rfl⟩
    congr 1
    exact decide_eq_decide.2 ⟨fun q => ⟨g, q⟩, fun q => q.2⟩
  have g := of_decide_eq_false (show decide (cl b ≥ 1) = false from g)
  intro _
  exact ⟨false, .inl rfl, by rw [decide_eq_false (fun q : isW b => g q.1)], rfl⟩
theorem rW_ok (b : Int) : SemF Try.prog 40 [.int .u8 b] ⟨0, 0, []⟩ (fun v _ => v = .test (decide (isW b)) ∧ nameless v = true) := by
  refine SemF.test ?_
  refine enter tt_ok Try.func40 (nt := 12) (cd := body Try.f40) rfl rfl rfl rfl ?_
  intro _
  refine call_pure [] (rclass_ok b) rfl rfl rfl ?_ ?_ ?_
  · (repeat' first | exact trivial | exact rfl | refine And.intro ?_ ?_)
  · (repeat' first | exact trivial | exact rfl | refine And.intro ?_ ?_)
  intro v hv _
  subst hv
  intro _; refine ⟨fun g => ?_, fun g => ?_⟩
  · have g := of_decide_eq_true (show decide (cl b ≥ 1) = true from g)
    intro _
    refine ⟨decide (cl b ≤ 3), .inr rfl, ?_, rfl⟩
    congr 1
    exact decide_eq_decide.2 ⟨fun q => ⟨g, q⟩, fun q => q.2⟩
  have g := of_decide_eq_false (show decide (cl b ≥ 1) = false from g)
  intro _
  exact ⟨false, .inl rfl, by rw [decide_eq_false (fun q : isW b => g q.1)], rfl⟩
theorem rL_ok (b : Int) : SemF Try.prog 41 [.int .u8 b] ⟨0, 0, []⟩ (fun v _ => v = .test (decide (isL b)) ∧ nameless v = true) := by
  refine SemF.test ?_
  refine enter tt_ok Try.func41 (nt := 12) (cd := body Try.f41) rfl rfl rfl rfl ?_
  intro _
  refine call_pure [] (rclass_ok b) rfl rfl rfl ?_ ?_ ?_
  · (repeat' first | exact trivial | exact rfl | refine And.intro ?_ ?_)
  · (repeat' first | exact trivial | exact rfl | refine And.intro ?_ ?_)
  intro v hv _
  subst hv
  intro _; refine ⟨fun g => ?_, fun g => ?_⟩
  · have g := eq_of_beq (show (cl b == 1) = true from g)
    intro _
    exact ⟨true, .inl rfl, by rw [decide_eq_true (show isL b from ⟨by omega, by omega⟩)], rfl⟩
  have g := beq_eq_false_iff_ne.1 (show (cl b == 1) = false from g)
  intro _
  refine ⟨(cl b == 2), .inr rfl, ?_, rfl⟩
  by_cases q : cl b = 2
  · rw [q, decide_eq_true (show isL b from ⟨by omega, by omega⟩)]; rfl
  · rw [beq_eq_false_iff_ne.2 q, decide_eq_false (fun w : isL b => by have := w.1; have := w.2; omega)]
/-- a run's letters -/
def fo (n b : Int) : Int := if isL b then n + 1 else if b = 126 then n else 0
theorem follow_ok (n b : Int) (h : 0 ≤ b ∧ b ≤ 255) (hn : 0 ≤ n ∧ n ≤ 1000000) : SemF Try.prog 37 [.int .i64 n, .int .u8 b] ⟨0, 0, []⟩ (fun v _ => v = .int .i64 (fo n b) ∧ nameless v = true) := by
  refine enter tt_ok Try.func37 (nt := 15) (cd := body Try.f37) rfl rfl rfl rfl ?_
  intro _
  refine call_pure [] (isL_ok b h) rfl rfl rfl ?_ ?_ ?_
  · (repeat' first | exact trivial | exact rfl | refine And.intro ?_ ?_)
  · (repeat' first | exact trivial | exact rfl | refine And.intro ?_ ?_)
  intro v hv _
  subst hv
  intro _; refine ⟨fun g => ?_, fun g => ?_⟩
  · have g := of_decide_eq_true (show decide (isL b) = true from g)
    intro _
    refine ⟨?_, rfl⟩
    unfold fo; rw [if_pos g]
    show V.int .i64 (IntKind.i64.wrap (n + 1)) = _
    rw [wrapS _ ⟨by omega, by omega⟩]
  have gL := of_decide_eq_false (show decide (isL b) = false from g)
  intro _
  refine call_pure [] (Class_ok b h) rfl rfl rfl ?_ ?_ ?_
  · (repeat' first | exact trivial | exact rfl | refine And.intro ?_ ?_)
  · (repeat' first | exact trivial | exact rfl | refine And.intro ?_ ?_)
  intro v hv _
  subst hv
  intro _; refine ⟨fun g => ?_, fun g => ?_⟩
  · have g2 := cl_6.1 (eq_of_beq (show (cl b == 6) = true from g))
    intro _
    refine ⟨?_, rfl⟩
    unfold fo; rw [if_neg gL, if_pos g2]
  have g2 : ¬ b = 126 := fun e => beq_eq_false_iff_ne.1 (show (cl b == 6) = false from g) (cl_6.2 e)
  intro _
  refine ⟨?_, rfl⟩
  unfold fo; rw [if_neg gL, if_neg g2]
/-! rules -/
abbrev LD := List (List D)
def kS (kp : LD) (i : Nat) : List UInt8 := ((kp.getD i []).getD 0 (.n 0)).str
def kG (k : List UInt8) : Prop := k.length = 2 ∧ (97 ≤ by' k 0 ∧ by' k 0 ≤ 122) ∧ (97 ≤ by' k 1 ∧ by' k 1 ≤ 122)
instance deckG (k : List UInt8) : Decidable (kG k) := inferInstanceAs (Decidable (_ ∧ _))
def KP (kp : LD) (i : Nat) : Prop := kG (kS kp i) ∧ ∀ j, j < i → kS kp j ≠ kS kp i
instance decKP (kp : LD) (i : Nat) : Decidable (KP kp i) := inferInstanceAs (Decidable (_ ∧ ∀ j, j < i → kS kp j ≠ kS kp i))
def bO (bf : Int) : Prop := 1 ≤ bf ∧ bf ≤ 5
instance decbO (bf : Int) : Decidable (bO bf) := inferInstanceAs (Decidable (_ ∧ _))
def VB (bf bh : Int) (kp : LD) : Prop := bO bf ∧ bO bh ∧ (kp.length : Int) ≤ 20 ∧ ∀ i, i < kp.length → KP kp i
instance decVB (bf bh : Int) (kp : LD) : Decidable (VB bf bh kp) := inferInstanceAs (Decidable (_ ∧ _ ∧ _ ∧ ∀ i, i < kp.length → KP kp i))
/-! a set of strings -/
theorem mfind_put {l : List (List UInt8 × List D)} {k k' : List UInt8} {d : List D} : mfindS (mputS l k d) k' = if k = k' then some d else mfindS l k' := by
  induction l with
  | nil => simp [mputS, mfindS]
  | cons e l ih =>
    simp only [mputS]
    by_cases h : e.1 = k
    · rw [if_pos h]
      simp only [mfindS]
      rw [h]
      by_cases q : k = k'
      · rw [if_pos q]
        simp [q]
      · simp [q]
    · rw [if_neg h]
      simp only [mfindS]
      rw [ih]
      by_cases q : e.1 = k'
      · rw [if_pos q]
        have : ¬ k = k' := fun w => h (q.trans w.symm)
        rw [if_neg this, if_pos q]
      · rw [if_neg q, if_neg q]
def SM (kp : LD) : Nat → List (List UInt8 × List D)
  | 0 => []
  | i + 1 => mputS (SM kp i) (kS kp i) [.b true]
def inS (kp : LD) (n : Nat) (k : List UInt8) : Prop := ∃ j, j < n ∧ kS kp j = k
theorem SM_in (kp : LD) (k : List UInt8) : ∀ n : Nat, ((((mfindS (SM kp n) k).getD [.b false]).getD 0 (.n 0)).bool = true ↔ inS kp n k)
  | 0 => by
    unfold SM mfindS inS
    simp [D.bool]
  | n + 1 => by
    have ih := SM_in kp k n
    unfold SM
    rw [mfind_put]
    unfold inS at ih ⊢
    by_cases h : kS kp n = k
    · rw [if_pos h]
      simp only [Option.getD_some]
      exact ⟨fun _ => ⟨n, by omega, h⟩, fun _ => rfl⟩
    · rw [if_neg h, ih]
      refine ⟨fun ⟨j, a, b⟩ => ⟨j, by omega, b⟩, fun ⟨j, a, b⟩ => ⟨j, ?_, b⟩⟩
      rcases Nat.lt_or_ge j n with q | q
      · exact q
      · have : j = n := by omega
        subst this; exact absurd b h
theorem Valid_ok (bf bh : Int) (kp : LD) : SemF Try.prog 12 [.agg [.int .i64 bf, .int .i64 bh, .slc 0 1 0 kp.length]] ⟨1, 1, [(0, .arr [.str] .rd (.recs kp))]⟩ (fun v _ => v = .test (decide (VB bf bh kp)) ∧ nameless v = true) := by
  refine SemF.test ?_
  refine enter tt_ok Try.func12 (nt := 61) (cd := body Try.f12) rfl rfl rfl rfl ?_
  have no : ¬ VB bf bh kp → ∃ b, (V.bool false = .bool b ∨ V.bool false = .test b) ∧ (V.test b = .test (decide (VB bf bh kp)) ∧ nameless (V.test b) = true) := fun hh => ⟨false, .inl rfl, by rw [decide_eq_false hh], rfl⟩
  intro _; refine ⟨fun g => ?_, fun g => ?_⟩
  · have g := of_decide_eq_true (show decide (bf < 1) = true from g)
    intro _
    exact no (fun h => by have := h.1.1; omega)
  have a1 := of_decide_eq_false (show decide (bf < 1) = false from g)
  intro _; refine ⟨fun g => ?_, fun g => ?_⟩
  · have g := of_decide_eq_true (show decide (bf > 5) = true from g)
    intro _
    exact no (fun h => by have := h.1.2; omega)
  have a2 := of_decide_eq_false (show decide (bf > 5) = false from g)
  intro _; refine ⟨fun g => ?_, fun g => ?_⟩
  · have g := of_decide_eq_true (show decide (bh < 1) = true from g)
    intro _
    exact no (fun h => by have := h.2.1.1; omega)
  have a3 := of_decide_eq_false (show decide (bh < 1) = false from g)
  intro _; refine ⟨fun g => ?_, fun g => ?_⟩
  · have g := of_decide_eq_true (show decide (bh > 5) = true from g)
    intro _
    exact no (fun h => by have := h.2.1.2; omega)
  have a4 := of_decide_eq_false (show decide (bh > 5) = false from g)
  intro _; refine ⟨fun g => ?_, fun g => ?_⟩
  · have g := of_decide_eq_true (show decide ((kp.length : Int) > 20) = true from g)
    intro _
    exact no (fun h => by have := h.2.2.1; omega)
  have a5 := of_decide_eq_false (show decide ((kp.length : Int) > 20) = false from g)
  intro _
  refine loop2 tt_ok [34] [2] 3 (fun i : { i : Nat // i ≤ kp.length ∧ ∀ j, j < i → KP kp j } => [(34, .int .i64 (i.1 : Nat))]) (fun i => [(2, .smap [.bool] false (SM kp i.1))]) (fun i => kp.length - i.1) ⟨0, by omega, fun j hj => by omega⟩ ?_
  intro _
  refine ⟨⟨th [] 3, rfl, rfl, rfl, rfl, rfl, rfl, ?_, ?_⟩, ?_⟩
  · (repeat' first | exact trivial | exact rfl | refine And.intro ?_ ?_)
  · (repeat' first | exact trivial | exact rfl | refine And.intro ?_ ?_)
  intro ⟨i, h1, h2⟩
  intro _; refine ⟨fun g => ?_, fun g => ?_⟩
  rotate_left
  · have hkl := of_decide_eq_false (show decide ((i : Int) < (kp.length : Int)) = false from g)
    intro _
    exact ⟨true, .inl rfl, by rw [decide_eq_true (show VB bf bh kp from ⟨⟨by omega, by omega⟩, ⟨by omega, by omega⟩, by omega, fun j hj => h2 j (by omega)⟩)], rfl⟩
  have hkl := of_decide_eq_true (show decide ((i : Int) < (kp.length : Int)) = true from g)
  have hil : i < kp.length := by omega
  have ei : 0 + (i : Int).toNat = i := by omega
  have no : ¬ KP kp i → ∃ b, (V.bool false = .bool b ∨ V.bool false = .test b) ∧ (V.test b = .test (decide (VB bf bh kp)) ∧ nameless (V.test b) = true) := fun hh => no (fun h => hh (h.2.2.2 i hil))
  intro _; refine ⟨show 0 ≤ (i : Int) ∧ (i : Int) < (kp.length : Int) by omega, ?_⟩
  intro _; refine ⟨show 0 + (i : Int).toNat < kp.length by omega, ?_⟩
  intro _; refine ⟨fun g => ?_, fun g => ?_⟩
  · have g : (((kS kp (0 + (i : Int).toNat)).length : Int) != 2) = true := g
    rw [ei, bne_iff_ne] at g
    intro _
    exact no (fun h => by have := h.1.1; omega)
  have b1 : (((kS kp (0 + (i : Int).toNat)).length : Int) != 2) = false := g
  have b1' := b1
  rw [ei, bne_eq_false_iff_eq] at b1'
  rw [bne_eq_false_iff_eq] at b1
  intro _; refine ⟨show 0 ≤ (0 : Int) ∧ (0 : Int) < ((kS kp (0 + (i : Int).toNat)).length : Int) by omega, ?_⟩
  intro _
  refine call_pure [] (Class_ok (by' (kS kp (0 + (i : Int).toNat)) (0 : Int).toNat) (by_range _ _)) rfl rfl rfl ?_ ?_ ?_
  · (repeat' first | exact trivial | exact rfl | refine And.intro ?_ ?_)
  · (repeat' first | exact trivial | exact rfl | refine And.intro ?_ ?_)
  intro v hv _
  subst hv
  intro _; refine ⟨fun g => ?_, fun g => ?_⟩
  · have g : (cl (by' (kS kp (0 + (i : Int).toNat)) (0 : Int).toNat) != 1) = true := g
    rw [ei, bne_iff_ne] at g
    intro _
    exact no (fun h => g (cl_1.2 h.1.2.1))
  have b2 : (cl (by' (kS kp (0 + (i : Int).toNat)) (0 : Int).toNat) != 1) = false := g
  rw [ei, bne_eq_false_iff_eq] at b2
  intro _; refine ⟨show 0 ≤ (1 : Int) ∧ (1 : Int) < ((kS kp (0 + (i : Int).toNat)).length : Int) by omega, ?_⟩
  intro _
  refine call_pure [] (Class_ok (by' (kS kp (0 + (i : Int).toNat)) (1 : Int).toNat) (by_range _ _)) rfl rfl rfl ?_ ?_ ?_
  · (repeat' first | exact trivial | exact rfl | refine And.intro ?_ ?_)
  · (repeat' first | exact trivial | exact rfl | refine And.intro ?_ ?_)
  intro v hv _
  subst hv
  intro _; refine ⟨fun g => ?_, fun g => ?_⟩
  · have g : (cl (by' (kS kp (0 + (i : Int).toNat)) (1 : Int).toNat) != 1) = true := g
    rw [ei, bne_iff_ne] at g
    intro _
    exact no (fun h => g (cl_1.2 h.1.2.2))
  have b3 : (cl (by' (kS kp (0 + (i : Int).toNat)) (1 : Int).toNat) != 1) = false := g
  rw [ei, bne_eq_false_iff_eq] at b3
  intro _; refine ⟨fun g => ?_, fun g => ?_⟩
  · have g : (((mfindS (SM kp i) (kS kp (0 + (i : Int).toNat))).getD [.b false]).getD 0 (.n 0)).bool = true := g
    rw [ei, SM_in] at g
    obtain ⟨j, g1, g2⟩ := g
    intro _
    exact no (fun h => h.2 j g1 g2)
  have b4 : ¬ (((mfindS (SM kp i) (kS kp (0 + (i : Int).toNat))).getD [.b false]).getD 0 (.n 0)).bool = true := Bool.eq_false_iff.1 g
  rw [ei, SM_in] at b4
  have hkp : KP kp i := ⟨⟨by omega, cl_1.1 b2, cl_1.1 b3⟩, fun j hj e => b4 ⟨j, hj, e⟩⟩
  refine ⟨⟨i + 1, by omega, step_all h2 hkp⟩, by simp only []; omega, th [] 3, rfl, rfl, rfl, rfl, rfl, rfl, ?_, ?_⟩
  · (repeat' first | exact trivial | exact rfl | refine And.intro ?_ ?_)
    exact (wrap_nat i (by omega)).symm
  · (repeat' first | exact trivial | exact rfl | refine And.intro ?_ ?_)
    exact (show mputS (SM kp i) (kS kp i) [.b true] = mputS (SM kp i) (kS kp (0 + (i : Int).toNat)) [.b true] by rw [ei])
theorem rValid_ok (bf bh : Int) (kp : LD) : SemF Try.prog 13 [.agg [.int .i64 bf, .int .i64 bh, .slc 0 1 0 kp.length]] ⟨1, 1, [(0, .arr [.str] .rd (.recs kp))]⟩ (fun v _ => v = .test (decide (VB bf bh kp)) ∧ nameless v = true) := by
  refine SemF.test ?_
  refine enter tt_ok Try.func13 (nt := 77) (cd := body Try.f13) rfl rfl rfl rfl ?_
  have no : ¬ VB bf bh kp → ∃ b, (V.bool false = .bool b ∨ V.bool false = .test b) ∧ (V.test b = .test (decide (VB bf bh kp)) ∧ nameless (V.test b) = true) := fun hh => ⟨false, .inl rfl, by rw [decide_eq_false hh], rfl⟩
  intro _; refine ⟨fun g => ?_, fun g => ?_⟩
  · have g := of_decide_eq_true (show decide (bf < 1) = true from g)
    intro _
    exact no (fun h => by have := h.1.1; omega)
  have a1 := of_decide_eq_false (show decide (bf < 1) = false from g)
  intro _; refine ⟨fun g => ?_, fun g => ?_⟩
  · have g := of_decide_eq_true (show decide (bf > 5) = true from g)
    intro _
    exact no (fun h => by have := h.1.2; omega)
  have a2 := of_decide_eq_false (show decide (bf > 5) = false from g)
  intro _; refine ⟨fun g => ?_, fun g => ?_⟩
  · have g := of_decide_eq_true (show decide (bh < 1) = true from g)
    intro _
    exact no (fun h => by have := h.2.1.1; omega)
  have a3 := of_decide_eq_false (show decide (bh < 1) = false from g)
  intro _; refine ⟨fun g => ?_, fun g => ?_⟩
  · have g := of_decide_eq_true (show decide (bh > 5) = true from g)
    intro _
    exact no (fun h => by have := h.2.1.2; omega)
  have a4 := of_decide_eq_false (show decide (bh > 5) = false from g)
  intro _; refine ⟨fun g => ?_, fun g => ?_⟩
  · have g := of_decide_eq_true (show decide ((kp.length : Int) > 20) = true from g)
    intro _
    exact no (fun h => by have := h.2.2.1; omega)
  have a5 := of_decide_eq_false (show decide ((kp.length : Int) > 20) = false from g)
  intro _
  refine loop2 tt_ok [3] [] 2 (fun i : { i : Nat // i ≤ kp.length ∧ ∀ j, j < i → KP kp j } => [(3, .int .i64 (i.1 : Nat))]) (fun i => []) (fun i => kp.length - i.1) ⟨0, by omega, fun j hj => by omega⟩ ?_
  intro _
  refine ⟨⟨th [] 2, rfl, rfl, rfl, rfl, rfl, rfl, ?_, ?_⟩, ?_⟩
  · (repeat' first | exact trivial | exact rfl | refine And.intro ?_ ?_)
  · (repeat' first | exact trivial | exact rfl | refine And.intro ?_ ?_)
  intro ⟨i, h1, h2⟩
  intro _; refine ⟨fun g => ?_, fun g => ?_⟩
  rotate_left
  · have hkl := of_decide_eq_false (show decide ((i : Int) < (kp.length : Int)) = false from g)
    intro _
    exact ⟨true, .inl rfl, by rw [decide_eq_true (show VB bf bh kp from ⟨⟨by omega, by omega⟩, ⟨by omega, by omega⟩, by omega, fun j hj => h2 j (by omega)⟩)], rfl⟩
  have hkl := of_decide_eq_true (show decide ((i : Int) < (kp.length : Int)) = true from g)
  have hil : i < kp.length := by omega
  have ei : 0 + (i : Int).toNat = i := by omega
  have no : ¬ KP kp i → ∃ b, (V.bool false = .bool b ∨ V.bool false = .test b) ∧ (V.test b = .test (decide (VB bf bh kp)) ∧ nameless (V.test b) = true) := fun hh => no (fun h => hh (h.2.2.2 i hil))
  intro _; refine ⟨show 0 ≤ (i : Int) ∧ (i : Int) < (kp.length : Int) by omega, ?_⟩
  intro _; refine ⟨show 0 + (i : Int).toNat < kp.length by omega, ?_⟩
  intro _; refine ⟨fun g => ?_, fun g => ?_⟩
  · have g : (((kS kp (0 + (i : Int).toNat)).length : Int) != 2) = true := g
    rw [ei, bne_iff_ne] at g
    intro _
    exact no (fun h => by have := h.1.1; omega)
  have b1 : (((kS kp (0 + (i : Int).toNat)).length : Int) != 2) = false := g
  have b1' := b1
  rw [ei, bne_eq_false_iff_eq] at b1'
  rw [bne_eq_false_iff_eq] at b1
  intro _; refine ⟨show 0 ≤ (0 : Int) ∧ (0 : Int) < ((kS kp (0 + (i : Int).toNat)).length : Int) by omega, ?_⟩
  intro _; refine ⟨fun g => ?_, fun g => ?_⟩
  · have g := of_decide_eq_true (show decide (by' (kS kp (0 + (i : Int).toNat)) (0 : Int).toNat < 97) = true from g)
    rw [ei] at g
    have g : by' (kS kp i) 0 < 97 := g
    intro _
    exact no (fun h => by have := h.1.2.1.1; omega)
  have c0 := of_decide_eq_false (show decide (by' (kS kp (0 + (i : Int).toNat)) (0 : Int).toNat < 97) = false from g)
  rw [ei] at c0
  have c0 : ¬ by' (kS kp i) 0 < 97 := c0
  intro _; refine ⟨show 0 ≤ (0 : Int) ∧ (0 : Int) < ((kS kp (0 + (i : Int).toNat)).length : Int) by omega, ?_⟩
  intro _; refine ⟨fun g => ?_, fun g => ?_⟩
  · have g := of_decide_eq_true (show decide (by' (kS kp (0 + (i : Int).toNat)) (0 : Int).toNat > 122) = true from g)
    rw [ei] at g
    have g : by' (kS kp i) 0 > 122 := g
    intro _
    exact no (fun h => by have := h.1.2.1.2; omega)
  have c1 := of_decide_eq_false (show decide (by' (kS kp (0 + (i : Int).toNat)) (0 : Int).toNat > 122) = false from g)
  rw [ei] at c1
  have c1 : ¬ by' (kS kp i) 0 > 122 := c1
  intro _; refine ⟨show 0 ≤ (1 : Int) ∧ (1 : Int) < ((kS kp (0 + (i : Int).toNat)).length : Int) by omega, ?_⟩
  intro _; refine ⟨fun g => ?_, fun g => ?_⟩
  · have g := of_decide_eq_true (show decide (by' (kS kp (0 + (i : Int).toNat)) (1 : Int).toNat < 97) = true from g)
    rw [ei] at g
    have g : by' (kS kp i) 1 < 97 := g
    intro _
    exact no (fun h => by have := h.1.2.2.1; omega)
  have c2 := of_decide_eq_false (show decide (by' (kS kp (0 + (i : Int).toNat)) (1 : Int).toNat < 97) = false from g)
  rw [ei] at c2
  have c2 : ¬ by' (kS kp i) 1 < 97 := c2
  intro _; refine ⟨show 0 ≤ (1 : Int) ∧ (1 : Int) < ((kS kp (0 + (i : Int).toNat)).length : Int) by omega, ?_⟩
  intro _; refine ⟨fun g => ?_, fun g => ?_⟩
  · have g := of_decide_eq_true (show decide (by' (kS kp (0 + (i : Int).toNat)) (1 : Int).toNat > 122) = true from g)
    rw [ei] at g
    have g : by' (kS kp i) 1 > 122 := g
    intro _
    exact no (fun h => by have := h.1.2.2.2; omega)
  have c3 := of_decide_eq_false (show decide (by' (kS kp (0 + (i : Int).toNat)) (1 : Int).toNat > 122) = false from g)
  rw [ei] at c3
  have c3 : ¬ by' (kS kp i) 1 > 122 := c3
  have hkg : kG (kS kp i) := ⟨by omega, ⟨by omega, by omega⟩, ⟨by omega, by omega⟩⟩
  intro _
  refine loop2 tt_ok [5] [] 2 (fun m : { m : Nat // m ≤ i ∧ ∀ j, j < m → kS kp j ≠ kS kp i } => [(5, .int .i64 (m.1 : Nat))]) (fun _ => []) (fun m => i - m.1) ⟨0, by omega, fun j hj => by omega⟩ ?_
  intro _
  refine ⟨⟨th [] 2, rfl, rfl, rfl, rfl, rfl, rfl, ?_, ?_⟩, ?_⟩
  · (repeat' first | exact trivial | exact rfl | refine And.intro ?_ ?_)
  · (repeat' first | exact trivial | exact rfl | refine And.intro ?_ ?_)
  intro ⟨m, h3, h4⟩
  intro _; refine ⟨fun g => ?_, fun g => ?_⟩
  rotate_left
  · have hml := of_decide_eq_false (show decide ((m : Int) < (i : Int)) = false from g)
    refine ⟨⟨i + 1, by omega, step_all h2 ⟨hkg, fun j hj => h4 j (by omega)⟩⟩, by simp only []; omega, th [] 2, rfl, rfl, rfl, rfl, rfl, rfl, ?_, ?_⟩
    · (repeat' first | exact trivial | exact rfl | refine And.intro ?_ ?_)
      exact (wrap_nat i (by omega)).symm
    · (repeat' first | exact trivial | exact rfl | refine And.intro ?_ ?_)
  have hml := of_decide_eq_true (show decide ((m : Int) < (i : Int)) = true from g)
  have em : 0 + (m : Int).toNat = m := by omega
  intro _; refine ⟨show 0 ≤ (m : Int) ∧ (m : Int) < (kp.length : Int) by omega, ?_⟩
  intro _; refine ⟨show 0 + (m : Int).toNat < kp.length by omega, ?_⟩
  intro _; refine ⟨fun g => ?_, fun g => ?_⟩
  · have g := eq_of_beq (show (kS kp (0 + (m : Int).toNat) == kS kp (0 + (i : Int).toNat)) = true from g)
    rw [ei, em] at g
    intro _
    exact no (fun h => h.2 m (by omega) g)
  have g : (kS kp (0 + (m : Int).toNat) == kS kp (0 + (i : Int).toNat)) = false := g
  rw [ei, em] at g
  have g := beq_eq_false_iff_ne.1 g
  refine ⟨⟨m + 1, by omega, step_all h4 g⟩, by simp only []; omega, th [] 2, rfl, rfl, rfl, rfl, rfl, rfl, ?_, ?_⟩
  · (repeat' first | exact trivial | exact rfl | refine And.intro ?_ ?_)
    exact (wrap_nat m (by omega)).symm
  · (repeat' first | exact trivial | exact rfl | refine And.intro ?_ ?_)
set_option maxRecDepth 100000
def mk (n : Nat) (f : Nat → Int) : List Int := (List.range n).map f
theorem mk_len (n : Nat) (f : Nat → Int) : (mk n f).length = n := by simp [mk]
theorem mk_get {n i : Nat} (f : Nat → Int) (h : i < n) : (mk n f).getD i 0 = f i := by
  unfold mk; rw [List.getD_eq_getElem?_getD, List.getElem?_map, List.getElem?_range h]; rfl
theorem mk_ext {n : Nat} {f g : Nat → Int} (h : ∀ i, i < n → f i = g i) : mk n f = mk n g := by
  unfold mk
  refine List.map_congr_left fun i hi => h i (List.mem_range.1 hi)
theorem mk_set {n i : Nat} (f : Nat → Int) (v : Int) (h : i < n) : (mk n f).set i v = mk n (fun j => if j = i then v else f j) := by
  refine List.ext_getElem (by simp [mk]) fun j h1 h2 => ?_
  rw [List.getElem_set]
  simp only [mk, List.getElem_map, List.getElem_range]
  by_cases e : i = j
  · rw [if_pos e, if_pos e.symm]
  · rw [if_neg e, if_neg (fun q => e q.symm)]
/-! letters before and behind -/
def BF (s : List UInt8) : Nat → Int
  | 0 => 0
  | m + 1 => fo (BF s m) (by' s m)
def FBk (s : List UInt8) : Nat → Int
  | 0 => 0
  | d + 1 => fo (FBk s d) (by' s (s.length - (d + 1)))
def FB (s : List UInt8) (j : Nat) : Int := FBk s (s.length - j)
theorem FB_end (s : List UInt8) {j : Nat} (h : s.length ≤ j) : FB s j = 0 := by
  unfold FB; rw [show s.length - j = 0 by omega]; rfl
theorem FB_step (s : List UInt8) {j : Nat} (h : j < s.length) : FB s j = fo (FB s (j + 1)) (by' s j) := by
  unfold FB
  have e : s.length - j = (s.length - (j + 1)) + 1 := by omega
  rw [e]
  show fo _ _ = _
  rw [show s.length - (s.length - (j + 1) + 1) = j by omega]
theorem fo_bd {n b : Int} (h : 0 ≤ n) : 0 ≤ fo n b ∧ fo n b ≤ n + 1 := by unfold fo; (repeat' split) <;> omega
theorem BF_bd (s : List UInt8) : ∀ m : Nat, 0 ≤ BF s m ∧ BF s m ≤ m
  | 0 => by simp [BF]
  | m + 1 => by
    have h := BF_bd s m
    have := fo_bd (n := BF s m) (b := by' s m) h.1
    simp only [BF]; omega
theorem FBk_bd (s : List UInt8) : ∀ m : Nat, 0 ≤ FBk s m ∧ FBk s m ≤ m
  | 0 => by simp [FBk]
  | m + 1 => by
    have h := FBk_bd s m
    have := fo_bd (n := FBk s m) (b := by' s (s.length - (m + 1))) h.1
    simp only [FBk]; omega
theorem FB_bd (s : List UInt8) (j : Nat) : 0 ≤ FB s j ∧ FB s j ≤ s.length := by
  have := FBk_bd s (s.length - j)
  unfold FB; omega
/-- the first letter of a run -/
def FYk (s : List UInt8) : Nat → Int
  | 0 => 0
  | d + 1 => if isL (by' s (s.length - (d + 1))) then by' s (s.length - (d + 1)) else if by' s (s.length - (d + 1)) = 126 then FYk s d else 0
def fy (s : List UInt8) (j : Nat) : Int := FYk s (s.length - j)
theorem fy_end (s : List UInt8) {j : Nat} (h : s.length ≤ j) : fy s j = 0 := by
  unfold fy; rw [show s.length - j = 0 by omega]; rfl
theorem fy_step (s : List UInt8) {j : Nat} (h : j < s.length) : fy s j = if isL (by' s j) then by' s j else if by' s j = 126 then fy s (j + 1) else 0 := by
  unfold fy
  have e : s.length - j = (s.length - (j + 1)) + 1 := by omega
  rw [e]
  show (if isL (by' s (s.length - (s.length - (j + 1) + 1))) then _ else _) = _
  rw [show s.length - (s.length - (j + 1) + 1) = j by omega]
/-- the first byte that is no soft hyphen -/
def flr : List UInt8 → Int
  | [] => 0
  | b :: l => if (b.toNat : Int) = 126 then flr l else (b.toNat : Int)
theorem drop_by {s : List UInt8} {j : Nat} (h : j < s.length) : s.drop j = s.getD j 0 :: s.drop (j + 1) := by
  rw [List.drop_eq_getElem_cons h, List.getD_eq_getElem?_getD, List.getElem?_eq_getElem h]; rfl
theorem flr_step {s : List UInt8} {j : Nat} (h : j < s.length) : flr (s.drop j) = if by' s j = 126 then flr (s.drop (j + 1)) else by' s j := by
  rw [drop_by h]; rfl
theorem notL126 : ¬ isL 126 := by unfold isL; decide
theorem flr_fy {s : List UInt8} : ∀ (d j : Nat), s.length - j ≤ d → 1 ≤ FB s j → flr (s.drop j) = fy s j
  | 0, j, hd, h => by rw [FB_end s (by omega)] at h; omega
  | d + 1, j, hd, h => by
    rcases Nat.lt_or_ge j s.length with q | q
    · rw [FB_step s q] at h
      rw [flr_step q, fy_step s q]
      unfold fo at h
      split at h
      · rename_i hL
        have : ¬ by' s j = 126 := fun e => by rw [e] at hL; exact notL126 hL
        rw [if_neg this, if_pos hL]
      · rename_i hL
        split at h
        · rename_i e
          rw [if_pos e, if_neg hL, if_pos e]
          exact flr_fy d (j + 1) (by omega) h
        · omega
    · rw [FB_end s q] at h; omega
def FF (s : List UInt8) (m : Nat) (j : Nat) : Int := if m ≤ j then FB s j else 0
theorem letters_ok (s : List UInt8) (hl : s.length ≤ 2000) : SemF Try.prog 33 [.str s] ⟨0, 0, []⟩ (fun v h' => v = .grw 0 (s.length + 1) ∧ h' = ⟨1, 0, [(0, .arr [.int .i64] .own (.ints (mk (s.length + 1) (FB s))))]⟩) := by
  refine SemF.ret ?_
  refine enter tt_ok Try.func33 (nt := 25) (cd := body Try.f33) rfl rfl rfl rfl ?_
  have e1 : IntKind.i64.wrap ((s.length : Int) + 1) = ((s.length + 1 : Nat) : Int) := wrap_nat _ (by omega)
  have e2 : (IntKind.i64.wrap ((s.length : Int) + 1)).toNat = s.length + 1 := by rw [e1]; omega
  intro _; refine ⟨by rw [e1]; omega, ?_⟩
  intro _; refine ⟨rfl, ?_⟩
  intro _
  refine loop2 tt_ok [5] [1, 2] 3 (fun m : { m : Nat // m ≤ s.length } => [(5, .int .i64 ((m.1 : Int) - 1))]) (fun m => [(1, .arr [.int .i64] .own (.ints (mk (s.length + 1) (FF s m.1)))), (2, .cells [.grw 1 (s.length + 1)])]) (fun m => m.1) ⟨s.length, by omega⟩ ?_
  intro _
  refine ⟨⟨th [] 3, rfl, rfl, rfl, rfl, rfl, rfl, ?_, ?_⟩, ?_⟩
  · (repeat' first | exact trivial | exact rfl | refine And.intro ?_ ?_)
    show ((s.length : Nat) : Int) - 1 = IntKind.i64.wrap ((s.length : Int) - 1)
    rw [wrapS _ ⟨by omega, by omega⟩]
  · (repeat' first | exact trivial | exact rfl | refine And.intro ?_ ?_)
    · show mk (s.length + 1) (FF s s.length) = List.replicate (IntKind.i64.wrap ((s.length : Int) + 1)).toNat 0
      rw [e2]
      refine List.ext_getElem (by simp [mk]) fun j h1 h2 => ?_
      simp only [mk, List.getElem_map, List.getElem_range, List.getElem_replicate]
      unfold FF
      split
      · rename_i q; exact FB_end s q
      · rfl
    · exact e2.symm
  intro ⟨m, hm⟩
  intro _; refine ⟨fun g => ?_, fun g => ?_⟩
  · have g := of_decide_eq_true (show decide ((m : Int) - 1 ≥ 0) = true from g)
    have hm1 : 1 ≤ m := by omega
    have ej : IntKind.i64.wrap ((m : Int) - 1 + 1) = (m : Int) := by rw [wrapS _ ⟨by omega, by omega⟩]; omega
    have ei : ((m : Int) - 1).toNat = m - 1 := by omega
    have eg : (mk (s.length + 1) (FF s m)).getD (IntKind.i64.wrap ((m : Int) - 1 + 1)).toNat 0 = FB s m := by
      rw [ej, Int.toNat_natCast, mk_get _ (by omega)]; unfold FF; rw [if_pos (Nat.le_refl _)]
    have hb := FB_bd s m
    have hL := mk_len (s.length + 1) (FF s m)
    intro _
    refine Or.inl ?_
    intro _
    refine enter tt_ok Try.func51 (nt := 14) (cd := body Try.f51) rfl rfl rfl rfl ?_
    intro _; refine ⟨by rw [ej]; omega, ?_⟩
    intro _; refine ⟨show (IntKind.i64.wrap ((m : Int) - 1 + 1)).toNat < (mk (s.length + 1) (FF s m)).length by rw [ej, hL]; omega, ?_⟩
    intro _; refine ⟨show 0 ≤ (m : Int) - 1 ∧ (m : Int) - 1 < (s.length : Int) by omega, ?_⟩
    intro _
    refine Or.inl ?_
    intro _
    refine call_pure [] (follow_ok ((mk (s.length + 1) (FF s m)).getD (IntKind.i64.wrap ((m : Int) - 1 + 1)).toNat 0) (by' s ((m : Int) - 1).toNat) (by_range _ _) (by rw [eg]; omega)) rfl rfl rfl ?_ ?_ ?_
    · (repeat' first | exact trivial | exact rfl | refine And.intro ?_ ?_)
    · (repeat' first | exact trivial | exact rfl | refine And.intro ?_ ?_)
    intro v hv _
    subst hv
    intro _; refine ⟨by kernel_rfl, ?_⟩
    intro _
    intro _; refine ⟨show 0 ≤ (m : Int) - 1 ∧ (m : Int) - 1 < ((s.length + 1 : Nat) : Int) by omega, ?_⟩
    intro _; refine ⟨show ((m : Int) - 1).toNat < (mk (s.length + 1) (FF s m)).length by rw [hL]; omega, ?_⟩
    intro _; refine ⟨by kernel_rfl, ?_⟩
    refine ⟨⟨m - 1, by omega⟩, by simp only []; omega, th [] 3, rfl, rfl, rfl, rfl, rfl, rfl, ?_, ?_⟩
    · (repeat' first | exact trivial | exact rfl | refine And.intro ?_ ?_)
      show ((m - 1 : Nat) : Int) - 1 = IntKind.i64.wrap ((m : Int) - 1 - 1)
      rw [wrapS _ ⟨by omega, by omega⟩]; omega
    · (repeat' first | exact trivial | exact rfl | refine And.intro ?_ ?_)
      show mk (s.length + 1) (FF s (m - 1)) = (mk (s.length + 1) (FF s m)).set ((m : Int) - 1).toNat (fo ((mk (s.length + 1) (FF s m)).getD (IntKind.i64.wrap ((m : Int) - 1 + 1)).toNat 0) (by' s ((m : Int) - 1).toNat))
      rw [eg, ei, mk_set _ _ (by omega)]
      refine mk_ext fun j hj => ?_
      unfold FF
      by_cases q : j = m - 1
      · subst q
        rw [if_pos (Nat.le_refl _), if_pos rfl, FB_step s (by omega), show m - 1 + 1 = m by omega]
      · rw [if_neg q]
        by_cases w : m ≤ j
        · rw [if_pos (by omega), if_pos w]
        · rw [if_neg (by omega), if_neg w]
  have g := of_decide_eq_false (show decide ((m : Int) - 1 ≥ 0) = false from g)
  have hm0 : m = 0 := by omega
  subst hm0
  intro _
  have eF : mk (s.length + 1) (FF s 0) = mk (s.length + 1) (FB s) := mk_ext fun j hj => by unfold FF; rw [if_pos (Nat.zero_le _)]
  refine ⟨[(0, some 1)], .grw 0 (s.length + 1), ⟨1, 0, [(0, .arr [.int .i64] .own (.ints (mk (s.length + 1) (FB s))))]⟩, rfl, rfl, rfl, rfl, ?_, ?_, ?_, ?_⟩
  · (repeat' first | exact trivial | exact rfl | refine And.intro ?_ ?_)
  · (repeat' first | exact trivial | exact rfl | refine And.intro ?_ ?_)
  · (repeat' first | exact trivial | exact rfl | refine And.intro ?_ ?_)
  · (repeat' first | exact trivial | exact rfl | refine And.intro ?_ ?_)
theorem first_ok (u : List UInt8) (hl : u.length ≤ 2000) : SemF Try.prog 36 [.str u] ⟨0, 0, []⟩ (fun v _ => v = .int .u8 (flr u) ∧ nameless v = true) := by
  refine enter tt_ok Try.func36 (nt := 17) (cd := body Try.f36) rfl rfl rfl rfl ?_
  intro _
  refine loop2 tt_ok [6] [] 0 (fun i : { i : Nat // i ≤ u.length ∧ flr (u.drop i) = flr u } => [(6, .int .i64 (i.1 : Nat))]) (fun _ => []) (fun i => u.length - i.1) ⟨0, by omega, rfl⟩ ?_
  intro _
  refine ⟨⟨th [] 0, rfl, rfl, rfl, rfl, rfl, rfl, ?_, ?_⟩, ?_⟩
  · (repeat' first | exact trivial | exact rfl | refine And.intro ?_ ?_)
  · (repeat' first | exact trivial | exact rfl | refine And.intro ?_ ?_)
  intro ⟨i, h1, h2⟩
  intro _; refine ⟨fun g => ?_, fun g => ?_⟩
  rotate_left
  · have g := of_decide_eq_false (show decide ((i : Int) < (u.length : Int)) = false from g)
    intro _
    refine ⟨?_, rfl⟩
    rw [← h2, List.drop_of_length_le (by omega)]; rfl
  have g := of_decide_eq_true (show decide ((i : Int) < (u.length : Int)) = true from g)
  have hs := flr_step (s := u) (j := i) (by omega)
  intro _; refine ⟨show 0 ≤ (i : Int) ∧ (i : Int) < (u.length : Int) by omega, ?_⟩
  intro _; refine ⟨fun g => ?_, fun g => ?_⟩
  · have g : (by' u i != 126) = true := g
    rw [bne_iff_ne] at g
    rw [if_neg g] at hs
    intro _; refine ⟨show 0 ≤ (i : Int) ∧ (i : Int) < (u.length : Int) by omega, ?_⟩
    intro _
    refine ⟨?_, rfl⟩
    exact congrArg (V.int .u8) (hs.symm.trans h2)
  have g : (by' u i != 126) = false := g
  rw [bne_eq_false_iff_eq] at g
  rw [if_pos g] at hs
  refine ⟨⟨i + 1, by omega, by rw [← hs]; exact h2⟩, by simp only []; omega, th [] 0, rfl, rfl, rfl, rfl, rfl, rfl, ?_, ?_⟩
  · (repeat' first | exact trivial | exact rfl | refine And.intro ?_ ?_)
    exact (wrap_nat i (by omega)).symm
  · (repeat' first | exact trivial | exact rfl | refine And.intro ?_ ?_)
/-! the reference's -/
def BG (s : List UInt8) (m : Nat) : Prop := ∃ j, j < m ∧ by' s j ≠ 32
instance decBG (s : List UInt8) (m : Nat) : Decidable (BG s m) := inferInstanceAs (Decidable (∃ j, j < m ∧ by' s j ≠ 32))
theorem some_ok (s : List UInt8) (m : Nat) (hm : m ≤ s.length) (hl : s.length ≤ 2000) : SemF Try.prog 39 [.str s, .int .i64 (m : Nat)] ⟨0, 0, []⟩ (fun v _ => v = .test (decide (BG s m)) ∧ nameless v = true) := by
  refine SemF.test ?_
  refine enter tt_ok Try.func39 (nt := 15) (cd := body Try.f39) rfl rfl rfl rfl ?_
  intro _
  refine loop2 tt_ok [5] [] 0 (fun i : { i : Nat // i ≤ m ∧ ∀ j, j < i → by' s j = 32 } => [(5, .int .i64 (i.1 : Nat))]) (fun _ => []) (fun i => m - i.1) ⟨0, by omega, fun j hj => by omega⟩ ?_
  intro _
  refine ⟨⟨th [] 0, rfl, rfl, rfl, rfl, rfl, rfl, ?_, ?_⟩, ?_⟩
  · (repeat' first | exact trivial | exact rfl | refine And.intro ?_ ?_)
  · (repeat' first | exact trivial | exact rfl | refine And.intro ?_ ?_)
  intro ⟨i, h1, h2⟩
  intro _; refine ⟨fun g => ?_, fun g => ?_⟩
  rotate_left
  · have g := of_decide_eq_false (show decide ((i : Int) < (m : Int)) = false from g)
    intro _
    exact ⟨false, .inl rfl, by rw [decide_eq_false (fun h : BG s m => by obtain ⟨j, a, b⟩ := h; exact b (h2 j (by omega)))], rfl⟩
  have g := of_decide_eq_true (show decide ((i : Int) < (m : Int)) = true from g)
  intro _; refine ⟨show 0 ≤ (i : Int) ∧ (i : Int) < (s.length : Int) by omega, ?_⟩
  intro _; refine ⟨fun g => ?_, fun g => ?_⟩
  · have g2 : (by' s i != 32) = true := g
    rw [bne_iff_ne] at g2
    intro _
    exact ⟨true, .inl rfl, by rw [decide_eq_true (show BG s m from ⟨i, by omega, g2⟩)], rfl⟩
  have g2 : (by' s i != 32) = false := g
  rw [bne_eq_false_iff_eq] at g2
  refine ⟨⟨i + 1, by omega, step_all h2 g2⟩, by simp only []; omega, th [] 0, rfl, rfl, rfl, rfl, rfl, rfl, ?_, ?_⟩
  · (repeat' first | exact trivial | exact rfl | refine And.intro ?_ ?_)
    exact (wrap_nat i (by omega)).symm
  · (repeat' first | exact trivial | exact rfl | refine And.intro ?_ ?_)
def inK (kp : LD) (x y : Int) : Prop := ∃ i, i < kp.length ∧ by' (kS kp i) 0 = x ∧ by' (kS kp i) 1 = y
instance decinK (kp : LD) (x y : Int) : Decidable (inK kp x y) := inferInstanceAs (Decidable (∃ i, i < kp.length ∧ _))
theorem kept_ok (bf bh : Int) (kp : LD) (x y : Int) (hV : VB bf bh kp) : SemF Try.prog 43 [.agg [.int .i64 bf, .int .i64 bh, .slc 0 1 0 kp.length], .int .u8 x, .int .u8 y] ⟨1, 1, [(0, .arr [.str] .rd (.recs kp))]⟩ (fun v _ => v = .test (decide (inK kp x y)) ∧ nameless v = true) := by
  have h20 := hV.2.2.1
  refine SemF.test ?_
  refine enter tt_ok Try.func43 (nt := 33) (cd := body Try.f43) rfl rfl rfl rfl ?_
  intro _
  refine loop2 tt_ok [7] [] 2 (fun i : { i : Nat // i ≤ kp.length ∧ ∀ j, j < i → ¬ (by' (kS kp j) 0 = x ∧ by' (kS kp j) 1 = y) } => [(7, .int .i64 (i.1 : Nat))]) (fun _ => []) (fun i => kp.length - i.1) ⟨0, by omega, fun j hj => by omega⟩ ?_
  intro _
  refine ⟨⟨th [] 2, rfl, rfl, rfl, rfl, rfl, rfl, ?_, ?_⟩, ?_⟩
  · (repeat' first | exact trivial | exact rfl | refine And.intro ?_ ?_)
  · (repeat' first | exact trivial | exact rfl | refine And.intro ?_ ?_)
  intro ⟨i, h1, h2⟩
  intro _; refine ⟨fun g => ?_, fun g => ?_⟩
  rotate_left
  · have g := of_decide_eq_false (show decide ((i : Int) < (kp.length : Int)) = false from g)
    intro _
    exact ⟨false, .inl rfl, by rw [decide_eq_false (fun h : inK kp x y => by obtain ⟨j, a, b⟩ := h; exact h2 j (by omega) b)], rfl⟩
  have g := of_decide_eq_true (show decide ((i : Int) < (kp.length : Int)) = true from g)
  have ei : 0 + (i : Int).toNat = i := by omega
  have hk2 := (hV.2.2.2 i (by omega)).1.1
  intro _; refine ⟨show 0 ≤ (i : Int) ∧ (i : Int) < (kp.length : Int) by omega, ?_⟩
  intro _; refine ⟨show 0 + (i : Int).toNat < kp.length by omega, ?_⟩
  intro _; refine ⟨show 0 ≤ (0 : Int) ∧ (0 : Int) < ((kS kp (0 + (i : Int).toNat)).length : Int) by rw [ei]; omega, ?_⟩
  intro _; refine ⟨fun g => ?_, fun g => ?_⟩
  · have g1 : by' (kS kp i) 0 = x := by
      have := eq_of_beq (show (by' (kS kp (0 + (i : Int).toNat)) (0 : Int).toNat == x) = true from g)
      rw [ei] at this; exact this
    intro _; refine ⟨show 0 ≤ (i : Int) ∧ (i : Int) < (kp.length : Int) by omega, ?_⟩
    intro _; refine ⟨show 0 + (i : Int).toNat < kp.length by omega, ?_⟩
    intro _; refine ⟨show 0 ≤ (1 : Int) ∧ (1 : Int) < ((kS kp (0 + (i : Int).toNat)).length : Int) by rw [ei]; omega, ?_⟩
    intro _; refine ⟨fun g => ?_, fun g => ?_⟩
    · have g2 : by' (kS kp i) 1 = y := by
        have := eq_of_beq (show (by' (kS kp (0 + (i : Int).toNat)) (1 : Int).toNat == y) = true from g)
        rw [ei] at this; exact this
      intro _
      exact ⟨true, .inl rfl, by rw [decide_eq_true (show inK kp x y from ⟨i, by omega, g1, g2⟩)], rfl⟩
    have g2 : ¬ by' (kS kp i) 1 = y := by
      have := beq_eq_false_iff_ne.1 (show (by' (kS kp (0 + (i : Int).toNat)) (1 : Int).toNat == y) = false from g)
      rw [ei] at this; exact this
    refine ⟨⟨i + 1, by omega, step_all h2 (fun q => g2 q.2)⟩, by simp only []; omega, th [] 2, rfl, rfl, rfl, rfl, rfl, rfl, ?_, ?_⟩
    · (repeat' first | exact trivial | exact rfl | refine And.intro ?_ ?_)
      exact (wrap_nat i (by omega)).symm
    · (repeat' first | exact trivial | exact rfl | refine And.intro ?_ ?_)
  have g1 : ¬ by' (kS kp i) 0 = x := by
    have := beq_eq_false_iff_ne.1 (show (by' (kS kp (0 + (i : Int).toNat)) (0 : Int).toNat == x) = false from g)
    rw [ei] at this; exact this
  refine ⟨⟨i + 1, by omega, step_all h2 (fun q => g1 q.1)⟩, by simp only []; omega, th [] 2, rfl, rfl, rfl, rfl, rfl, rfl, ?_, ?_⟩
  · (repeat' first | exact trivial | exact rfl | refine And.intro ?_ ?_)
    exact (wrap_nat i (by omega)).symm
  · (repeat' first | exact trivial | exact rfl | refine And.intro ?_ ?_)
set_option maxRecDepth 100000
theorem runF_ok (s : List UInt8) (a : Nat) (ha : a ≤ s.length) (hl : s.length ≤ 2000) : SemF Try.prog 42 [.str s, .int .i64 (a : Nat), .int .i64 1] ⟨0, 0, []⟩ (fun v _ => v = .tup [.int .i64 (FB s a), .int .u8 (fy s a)] ∧ nameless v = true) := by
  refine enter tt_ok Try.func42 (nt := 44) (cd := body Try.f42) rfl rfl rfl rfl ?_
  intro _
  refine loop2 tt_ok [1, 8, 9] [] 0 (fun q : { q : Nat × Int × Int // a ≤ q.1 ∧ q.1 ≤ s.length ∧ 0 ≤ q.2.1 ∧ q.2.1 ≤ q.1 ∧ q.2.1 + FB s q.1 = FB s a ∧ (q.2.1 = 0 → q.2.2 = 0 ∧ fy s q.1 = fy s a) ∧ (q.2.1 ≠ 0 → q.2.2 = fy s a) } => [(1, .int .i64 (q.1.1 : Nat)), (8, .int .i64 q.1.2.1), (9, .int .u8 q.1.2.2)]) (fun _ => []) (fun q => s.length - q.1.1) ⟨(a, 0, 0), by simp, ha, by simp, by simp, by simp, fun _ => ⟨rfl, rfl⟩, fun h => absurd rfl h⟩ ?_
  intro _
  refine ⟨⟨th [] 0, rfl, rfl, rfl, rfl, rfl, rfl, ?_, ?_⟩, ?_⟩
  · (repeat' first | exact trivial | exact rfl | refine And.intro ?_ ?_)
  · (repeat' first | exact trivial | exact rfl | refine And.intro ?_ ?_)
  intro ⟨⟨m, n, f⟩, h1, h2, h3, h4, h5, h6, h7⟩
  have h1 : a ≤ m := h1
  have h2 : m ≤ s.length := h2
  have h3 : 0 ≤ n := h3
  have h4 : n ≤ m := h4
  have h5 : n + FB s m = FB s a := h5
  have h6 : n = 0 → f = 0 ∧ fy s m = fy s a := h6
  have h7 : n ≠ 0 → f = fy s a := h7
  have done : FB s m = 0 → fy s m = 0 → V.tup [.int .i64 n, .int .u8 f] = .tup [.int .i64 (FB s a), .int .u8 (fy s a)] := fun e1 e2 => by
    have e3 : n = FB s a := by omega
    have e4 : f = fy s a := by
      by_cases q : n = 0
      · obtain ⟨x, y⟩ := h6 q; rw [x, ← y, e2]
      · exact h7 q
    rw [e3, e4]
  intro _; refine ⟨fun g => ?_, fun g => ?_⟩
  rotate_left
  · have g := of_decide_eq_false (show decide ((m : Int) ≥ 0) = false from g)
    omega
  intro _; refine ⟨fun g => ?_, fun g => ?_⟩
  rotate_left
  · have g := of_decide_eq_false (show decide ((m : Int) < (s.length : Int)) = false from g)
    intro _
    exact ⟨done (FB_end s (by omega)) (fy_end s (by omega)), rfl⟩
  have g := of_decide_eq_true (show decide ((m : Int) < (s.length : Int)) = true from g)
  have sB := FB_step s (j := m) (by omega)
  have sY := fy_step s (j := m) (by omega)
  have hb := FB_bd s (m + 1)
  have ew : IntKind.i64.wrap ((m : Int) + 1) = ((m + 1 : Nat) : Int) := wrap_nat m (by omega)
  intro _; refine ⟨show 0 ≤ (m : Int) ∧ (m : Int) < (s.length : Int) by omega, ?_⟩
  intro _
  refine call_pure [] (rL_ok (by' s (m : Int).toNat)) rfl rfl rfl ?_ ?_ ?_
  · (repeat' first | exact trivial | exact rfl | refine And.intro ?_ ?_)
  · (repeat' first | exact trivial | exact rfl | refine And.intro ?_ ?_)
  intro v hv _
  subst hv
  intro _; refine ⟨fun g => ?_, fun g => ?_⟩
  · have gL : ¬ isL (by' s m) := by
      have := show (!decide (isL (by' s m))) = true from g
      rw [Bool.not_eq_true'] at this; exact of_decide_eq_false this
    intro _; refine ⟨show 0 ≤ (m : Int) ∧ (m : Int) < (s.length : Int) by omega, ?_⟩
    intro _; refine ⟨fun g => ?_, fun g => ?_⟩
    · have g2 : ¬ by' s m = 126 := by
        have := show (by' s m != 126) = true from g
        rwa [bne_iff_ne] at this
      intro _
      refine ⟨done ?_ ?_, rfl⟩
      · rw [sB]; unfold fo; rw [if_neg gL, if_neg g2]
      · rw [sY, if_neg gL, if_neg g2]
    have g2 : by' s m = 126 := by
      have := show (by' s m != 126) = false from g
      rwa [bne_eq_false_iff_eq] at this
    intro _; refine ⟨fun g => ?_, fun g => ?_⟩
    · exact absurd (of_decide_eq_true (show decide (isL (by' s m)) = true from g)) gL
    refine ⟨⟨(m + 1, n, f), by show a ≤ m + 1; omega, by show m + 1 ≤ s.length; omega, h3, by show n ≤ ((m + 1 : Nat) : Int); omega, ?_, fun q => ?_, h7⟩, by simp only []; omega, th [] 0, rfl, rfl, rfl, rfl, rfl, rfl, ?_, ?_⟩
    · show n + FB s (m + 1) = FB s a
      unfold fo at sB; rw [if_neg gL, if_pos g2] at sB; omega
    · refine ⟨(h6 q).1, ?_⟩
      show fy s (m + 1) = fy s a
      rw [if_neg gL, if_pos g2] at sY
      rw [← sY]; exact (h6 q).2
    · (repeat' first | exact trivial | exact rfl | refine And.intro ?_ ?_)
      exact ew.symm
    · (repeat' first | exact trivial | exact rfl | refine And.intro ?_ ?_)
  have gL : isL (by' s m) := by
    have := show (!decide (isL (by' s m))) = false from g
    rw [Bool.not_eq_false'] at this; exact of_decide_eq_true this
  intro _; refine ⟨fun g => ?_, fun g => ?_⟩
  rotate_left
  · exact absurd gL (of_decide_eq_false (show decide (isL (by' s m)) = false from g))
  have sB : FB s m = FB s (m + 1) + 1 := by rw [sB]; unfold fo; rw [if_pos gL]
  rw [if_pos gL] at sY
  have ew2 : IntKind.i64.wrap (n + 1) = n + 1 := wrapS _ ⟨by omega, by omega⟩
  intro _; refine ⟨fun g => ?_, fun g => ?_⟩
  · have g0 := eq_of_beq (show (n == 0) = true from g)
    intro _; refine ⟨show 0 ≤ (m : Int) ∧ (m : Int) < (s.length : Int) by omega, ?_⟩
    refine ⟨⟨(m + 1, n + 1, by' s m), by show a ≤ m + 1; omega, by show m + 1 ≤ s.length; omega, by show 0 ≤ n + 1; omega, by show n + 1 ≤ ((m + 1 : Nat) : Int); omega, ?_, fun q => ?_, fun q => ?_⟩, by simp only []; omega, th [] 0, rfl, rfl, rfl, rfl, rfl, rfl, ?_, ?_⟩
    · show n + 1 + FB s (m + 1) = FB s a; omega
    · have q : n + 1 = 0 := q
      omega
    · show by' s m = fy s a
      rw [← sY]; exact (h6 g0).2
    · (repeat' first | exact trivial | exact rfl | refine And.intro ?_ ?_)
      · exact ew.symm
      · exact ew2.symm
    · (repeat' first | exact trivial | exact rfl | refine And.intro ?_ ?_)
  have g0 := beq_eq_false_iff_ne.1 (show (n == 0) = false from g)
  refine ⟨⟨(m + 1, n + 1, f), by show a ≤ m + 1; omega, by show m + 1 ≤ s.length; omega, by show 0 ≤ n + 1; omega, by show n + 1 ≤ ((m + 1 : Nat) : Int); omega, ?_, fun q => ?_, fun q => h7 g0⟩, by simp only []; omega, th [] 0, rfl, rfl, rfl, rfl, rfl, rfl, ?_, ?_⟩
  · show n + 1 + FB s (m + 1) = FB s a; omega
  · have q : n + 1 = 0 := q
    omega
  · (repeat' first | exact trivial | exact rfl | refine And.intro ?_ ?_)
    · exact ew.symm
    · exact ew2.symm
  · (repeat' first | exact trivial | exact rfl | refine And.intro ?_ ?_)
theorem runB_ok (s : List UInt8) (j : Nat) (hj : j < s.length) (hl : s.length ≤ 2000) (hL : isL (by' s j)) (z : Int) (hz : z = (j : Int)) : SemF Try.prog 42 [.str s, .int .i64 z, .int .i64 (-1)] ⟨0, 0, []⟩ (fun v _ => v = .tup [.int .i64 (BF s (j + 1)), .int .u8 (by' s j)] ∧ nameless v = true) := by
  refine enter tt_ok Try.func42 (nt := 44) (cd := body Try.f42) rfl rfl rfl rfl ?_
  intro _
  refine loop2 tt_ok [1, 8, 9] [] 0 (fun q : { q : Nat × Int × Int // q.1 ≤ j + 1 ∧ 0 ≤ q.2.1 ∧ q.2.1 ≤ j + 1 - q.1 ∧ q.2.1 + BF s q.1 = BF s (j + 1) ∧ ((q.2.1 = 0 ∧ q.1 = j + 1 ∧ q.2.2 = 0) ∨ (1 ≤ q.2.1 ∧ q.2.2 = by' s j)) } => [(1, .int .i64 ((q.1.1 : Int) - 1)), (8, .int .i64 q.1.2.1), (9, .int .u8 q.1.2.2)]) (fun _ => []) (fun q => q.1.1) ⟨(j + 1, 0, 0), by simp, by simp, by simp, by simp, .inl ⟨rfl, rfl, rfl⟩⟩ ?_
  intro _
  refine ⟨⟨th [] 0, rfl, rfl, rfl, rfl, rfl, rfl, ?_, ?_⟩, ?_⟩
  · (repeat' first | exact trivial | exact rfl | refine And.intro ?_ ?_)
    show ((j + 1 : Nat) : Int) - 1 = z
    omega
  · (repeat' first | exact trivial | exact rfl | refine And.intro ?_ ?_)
  intro ⟨⟨m, n, f⟩, h1, h3, h4, h5, h6⟩
  have h1 : m ≤ j + 1 := h1
  have h3 : 0 ≤ n := h3
  have h4 : n ≤ j + 1 - m := h4
  have h5 : n + BF s m = BF s (j + 1) := h5
  have h6 : (n = 0 ∧ m = j + 1 ∧ f = 0) ∨ (1 ≤ n ∧ f = by' s j) := h6
  have done : BF s m = 0 → 1 ≤ n → V.tup [.int .i64 n, .int .u8 f] = .tup [.int .i64 (BF s (j + 1)), .int .u8 (by' s j)] := fun e1 e2 => by
    have e3 : n = BF s (j + 1) := by omega
    have e4 : f = by' s j := by
      rcases h6 with ⟨q, _⟩ | ⟨_, q⟩
      · omega
      · exact q
    rw [e3, e4]
  intro _; refine ⟨fun g => ?_, fun g => ?_⟩
  rotate_left
  · have g := of_decide_eq_false (show decide ((m : Int) - 1 ≥ 0) = false from g)
    have hm0 : m = 0 := by omega
    intro _
    refine ⟨done (by rw [hm0]; rfl) ?_, rfl⟩
    rcases h6 with ⟨_, q, _⟩ | ⟨q, _⟩
    · omega
    · exact q
  have g0 := of_decide_eq_true (show decide ((m : Int) - 1 ≥ 0) = true from g)
  intro _; refine ⟨fun g => ?_, fun g => ?_⟩
  rotate_left
  · have g := of_decide_eq_false (show decide ((m : Int) - 1 < (s.length : Int)) = false from g)
    omega
  have ei : ((m : Int) - 1).toNat = m - 1 := by omega
  have sB : BF s m = fo (BF s (m - 1)) (by' s (m - 1)) := by
    obtain ⟨q, rfl⟩ : ∃ q, m = q + 1 := ⟨m - 1, by omega⟩
    rfl
  have hb := BF_bd s (m - 1)
  have ew : IntKind.i64.wrap ((m : Int) - 1 + -1) = ((m - 1 : Nat) : Int) - 1 := by rw [wrapS _ ⟨by omega, by omega⟩]; omega
  have hne : ¬ isL (by' s (m - 1)) → 1 ≤ n := fun q => by
    rcases h6 with ⟨_, w, _⟩ | ⟨w, _⟩
    · exact absurd hL (by rw [show m - 1 = j by omega] at q; exact q)
    · exact w
  intro _; refine ⟨show 0 ≤ (m : Int) - 1 ∧ (m : Int) - 1 < (s.length : Int) by omega, ?_⟩
  intro _
  refine call_pure [] (rL_ok (by' s ((m : Int) - 1).toNat)) rfl rfl rfl ?_ ?_ ?_
  · (repeat' first | exact trivial | exact rfl | refine And.intro ?_ ?_)
  · (repeat' first | exact trivial | exact rfl | refine And.intro ?_ ?_)
  intro v hv _
  subst hv
  intro _; refine ⟨fun g => ?_, fun g => ?_⟩
  · have gL : ¬ isL (by' s (m - 1)) := by
      have := show (!decide (isL (by' s ((m : Int) - 1).toNat))) = true from g
      rw [Bool.not_eq_true', ei] at this; exact of_decide_eq_false this
    intro _; refine ⟨show 0 ≤ (m : Int) - 1 ∧ (m : Int) - 1 < (s.length : Int) by omega, ?_⟩
    intro _; refine ⟨fun g => ?_, fun g => ?_⟩
    · have g2 : ¬ by' s (m - 1) = 126 := by
        have := show (by' s ((m : Int) - 1).toNat != 126) = true from g
        rwa [bne_iff_ne, ei] at this
      intro _
      refine ⟨done ?_ (hne gL), rfl⟩
      rw [sB]; unfold fo; rw [if_neg gL, if_neg g2]
    have g2 : by' s (m - 1) = 126 := by
      have := show (by' s ((m : Int) - 1).toNat != 126) = false from g
      rwa [bne_eq_false_iff_eq, ei] at this
    intro _; refine ⟨fun g => ?_, fun g => ?_⟩
    · exact absurd (by have := of_decide_eq_true (show decide (isL (by' s ((m : Int) - 1).toNat)) = true from g); rwa [ei] at this) gL
    have h1n := hne gL
    refine ⟨⟨(m - 1, n, f), by show m - 1 ≤ j + 1; omega, h3, by show n ≤ j + 1 - ((m - 1 : Nat) : Int); omega, ?_, .inr ⟨h1n, ?_⟩⟩, by simp only []; omega, th [] 0, rfl, rfl, rfl, rfl, rfl, rfl, ?_, ?_⟩
    · show n + BF s (m - 1) = BF s (j + 1)
      unfold fo at sB; rw [if_neg gL, if_pos g2] at sB; omega
    · rcases h6 with ⟨q, _⟩ | ⟨_, q⟩
      · omega
      · exact q
    · (repeat' first | exact trivial | exact rfl | refine And.intro ?_ ?_)
      exact ew.symm
    · (repeat' first | exact trivial | exact rfl | refine And.intro ?_ ?_)
  have gL : isL (by' s (m - 1)) := by
    have := show (!decide (isL (by' s ((m : Int) - 1).toNat))) = false from g
    rw [Bool.not_eq_false', ei] at this; exact of_decide_eq_true this
  intro _; refine ⟨fun g => ?_, fun g => ?_⟩
  rotate_left
  · exact absurd gL (by have := of_decide_eq_false (show decide (isL (by' s ((m : Int) - 1).toNat)) = false from g); rwa [ei] at this)
  have sB : BF s m = BF s (m - 1) + 1 := by rw [sB]; unfold fo; rw [if_pos gL]
  have ew2 : IntKind.i64.wrap (n + 1) = n + 1 := wrapS _ ⟨by omega, by omega⟩
  intro _; refine ⟨fun g => ?_, fun g => ?_⟩
  · have g0 := eq_of_beq (show (n == 0) = true from g)
    intro _; refine ⟨show 0 ≤ (m : Int) - 1 ∧ (m : Int) - 1 < (s.length : Int) by omega, ?_⟩
    refine ⟨⟨(m - 1, n + 1, by' s (m - 1)), by show m - 1 ≤ j + 1; omega, by show 0 ≤ n + 1; omega, by show n + 1 ≤ j + 1 - ((m - 1 : Nat) : Int); omega, ?_, .inr ⟨by show 1 ≤ n + 1; omega, ?_⟩⟩, by simp only []; omega, th [] 0, rfl, rfl, rfl, rfl, rfl, rfl, ?_, ?_⟩
    · show n + 1 + BF s (m - 1) = BF s (j + 1); omega
    · show by' s (m - 1) = by' s j
      rcases h6 with ⟨_, q, _⟩ | ⟨q, _⟩
      · rw [show m - 1 = j by omega]
      · omega
    · (repeat' first | exact trivial | exact rfl | refine And.intro ?_ ?_)
      · exact ew.symm
      · exact ew2.symm
      · exact (show by' s (m - 1) = by' s ((m : Int) - 1).toNat by rw [ei])
    · (repeat' first | exact trivial | exact rfl | refine And.intro ?_ ?_)
  have g0 := beq_eq_false_iff_ne.1 (show (n == 0) = false from g)
  refine ⟨⟨(m - 1, n + 1, f), by show m - 1 ≤ j + 1; omega, by show 0 ≤ n + 1; omega, by show n + 1 ≤ j + 1 - ((m - 1 : Nat) : Int); omega, ?_, .inr ⟨by show 1 ≤ n + 1; omega, ?_⟩⟩, by simp only []; omega, th [] 0, rfl, rfl, rfl, rfl, rfl, rfl, ?_, ?_⟩
  · show n + 1 + BF s (m - 1) = BF s (j + 1); omega
  · rcases h6 with ⟨q, _⟩ | ⟨_, q⟩
    · omega
    · exact q
  · (repeat' first | exact trivial | exact rfl | refine And.intro ?_ ?_)
    · exact ew.symm
    · exact ew2.symm
  · (repeat' first | exact trivial | exact rfl | refine And.intro ?_ ?_)
/-! places -/
def PL (bf bh : Int) (kp : LD) (s : List UInt8) (a : Nat) : Prop :=
  (by' s (a - 1) = 32 ∧ BG s (a - 1) ∧ by' s a ≠ 32) ∨ (by' s (a - 1) = 45 ∧ 2 ≤ a ∧ isW (by' s (a - 2)) ∧ isW (by' s a)) ∨
  (by' s (a - 1) = 126 ∧ 2 ≤ a ∧ isL (by' s (a - 2)) ∧ bf ≤ BF s (a - 1) ∧ bh ≤ FB s a ∧ ¬ inK kp (by' s (a - 2)) (fy s a))
instance decPL (bf bh : Int) (kp : LD) (s : List UInt8) (a : Nat) : Decidable (PL bf bh kp s a) := inferInstanceAs (Decidable (_ ∨ _ ∨ _))
def HY (s : List UInt8) (a : Nat) : Prop := by' s (a - 1) = 126
instance decHY (s : List UInt8) (a : Nat) : Decidable (HY s a) := inferInstanceAs (Decidable (_ = _))
theorem PL32 {bf bh : Int} {kp : LD} {s : List UInt8} {a : Nat} (h : by' s (a - 1) = 32) : PL bf bh kp s a ↔ BG s (a - 1) ∧ by' s a ≠ 32 := by
  unfold PL
  rw [h]
  exact ⟨fun q => by rcases q with q | q | q <;> first | exact q.2 | omega, fun q => .inl ⟨rfl, q⟩⟩
theorem PL45 {bf bh : Int} {kp : LD} {s : List UInt8} {a : Nat} (h : by' s (a - 1) = 45) : PL bf bh kp s a ↔ 2 ≤ a ∧ isW (by' s (a - 2)) ∧ isW (by' s a) := by
  unfold PL
  rw [h]
  exact ⟨fun q => by rcases q with q | q | q <;> first | exact q.2 | omega, fun q => .inr (.inl ⟨rfl, q⟩)⟩
theorem PL126 {bf bh : Int} {kp : LD} {s : List UInt8} {a : Nat} (h : by' s (a - 1) = 126) : PL bf bh kp s a ↔ 2 ≤ a ∧ isL (by' s (a - 2)) ∧ bf ≤ BF s (a - 1) ∧ bh ≤ FB s a ∧ ¬ inK kp (by' s (a - 2)) (fy s a) := by
  unfold PL
  rw [h]
  exact ⟨fun q => by rcases q with q | q | q <;> first | exact q.2 | omega, fun q => .inr (.inr ⟨rfl, q⟩)⟩
theorem PLno {bf bh : Int} {kp : LD} {s : List UInt8} {a : Nat} (h1 : by' s (a - 1) ≠ 32) (h2 : by' s (a - 1) ≠ 45) (h3 : by' s (a - 1) ≠ 126) : ¬ PL bf bh kp s a := fun q => by
  rcases q with q | q | q
  · exact h1 q.1
  · exact h2 q.1
  · exact h3 q.1
theorem BG_last {s : List UInt8} {a : Nat} (h : by' s (a - 1) = 32) : BG s a ↔ BG s (a - 1) := by
  refine ⟨fun ⟨j, x, y⟩ => ⟨j, ?_, y⟩, fun ⟨j, x, y⟩ => ⟨j, by omega, y⟩⟩
  rcases Nat.lt_or_ge j (a - 1) with q | q
  · exact q
  · have : j = a - 1 := by omega
    subst this; exact absurd h y
theorem cv2 {x y : V} {b1 b2 : Bool} (h1 : x = .bool b1 ∨ x = .test b1) (h2 : y = .bool b2 ∨ y = .test b2) : ∀ n ν a, Cv n ν (.tup [x, y]) a → Cv n ν (.tup [.test b1, .test b2]) a := by
  intro n ν a h
  rcases h1 with rfl | rfl <;> rcases h2 with rfl | rfl <;> simpa only [Cv, Cvs] using h
set_option maxHeartbeats 1000000 in
theorem place_ok (bf bh : Int) (kp : LD) (s : List UInt8) (a : Nat) (hV : VB bf bh kp) (h1 : 1 ≤ a) (ha : a < s.length) (hl : s.length ≤ 2000) : SemF Try.prog 23 [.agg [.int .i64 bf, .int .i64 bh, .slc 0 1 0 kp.length], .str s, .int .i64 (a : Nat)] ⟨1, 1, [(0, .arr [.str] .rd (.recs kp))]⟩ (fun v _ => v = .tup [.test (decide (PL bf bh kp s a)), .test (decide (PL bf bh kp s a ∧ HY s a))] ∧ nameless v = true) := by
  refine SemF.seen ?_
  refine enter tt_ok Try.func23 (nt := 93) (cd := body Try.f23) rfl rfl rfl rfl ?_
  have e1 : IntKind.i64.wrap ((a : Int) - 1) = ((a - 1 : Nat) : Int) := by rw [wrapS _ ⟨by omega, by omega⟩]; omega
  have e1' : (IntKind.i64.wrap ((a : Int) - 1)).toNat = a - 1 := by rw [e1]; omega
  have no : ¬ PL bf bh kp s a → ∃ v' : V, (∀ n ν x, Cv n ν (.tup [.bool false, .bool false]) x → Cv n ν v' x) ∧ v' = .tup [.test (decide (PL bf bh kp s a)), .test (decide (PL bf bh kp s a ∧ HY s a))] ∧ nameless v' = true := fun h => ⟨_, cv2 (.inl rfl) (.inl rfl), by rw [decide_eq_false h, decide_eq_false (fun q => h q.1)], rfl⟩
  intro _; refine ⟨by rw [e1]; omega, ?_⟩
  intro _; refine ⟨fun g => ?_, fun g => ?_⟩
  · have g1 : by' s (a - 1) = 32 := by
      have := eq_of_beq (show (by' s (IntKind.i64.wrap ((a : Int) - 1)).toNat == 32) = true from g)
      rwa [e1'] at this
    have hH : ¬ HY s a := by unfold HY; omega
    intro _
    refine call_pure [] (some_ok s a (by omega) hl) rfl rfl rfl ?_ ?_ ?_
    · (repeat' first | exact trivial | exact rfl | refine And.intro ?_ ?_)
    · (repeat' first | exact trivial | exact rfl | refine And.intro ?_ ?_)
    intro v hv _
    subst hv
    intro _; refine ⟨show 0 ≤ (a : Int) ∧ (a : Int) < (s.length : Int) by omega, ?_⟩
    intro _; refine ⟨fun g => ?_, fun g => ?_⟩
    · have g2 : by' s a ≠ 32 := by
        have := show (by' s a != 32) = true from g
        rwa [bne_iff_ne] at this
      intro _
      refine ⟨_, cv2 (b1 := decide (BG s a)) (b2 := false) (.inr rfl) (.inl rfl), ?_, rfl⟩
      rw [decide_eq_false (fun q : PL bf bh kp s a ∧ HY s a => hH q.2)]
      rw [decide_eq_decide.2 (show BG s a ↔ PL bf bh kp s a from by rw [PL32 g1, BG_last g1]; exact ⟨fun q => ⟨q, g2⟩, fun q => q.1⟩)]
    have g2 : by' s a = 32 := by
      have := show (by' s a != 32) = false from g
      rwa [bne_eq_false_iff_eq] at this
    intro _
    exact no (fun q => ((PL32 g1).1 q).2 g2)
  have g1 : ¬ by' s (a - 1) = 32 := by
    have := beq_eq_false_iff_ne.1 (show (by' s (IntKind.i64.wrap ((a : Int) - 1)).toNat == 32) = false from g)
    rwa [e1'] at this
  intro _; refine ⟨fun g => ?_, fun g => ?_⟩
  · have g2 : by' s (a - 1) = 45 := by
      have := eq_of_beq (show (by' s (IntKind.i64.wrap ((a : Int) - 1)).toNat == 45) = true from g)
      rwa [e1'] at this
    have hH : ¬ HY s a := by unfold HY; omega
    intro _; refine ⟨fun g => ?_, fun g => ?_⟩
    · have g3 := of_decide_eq_true (show decide ((a : Int) < 2) = true from g)
      intro _
      exact no (fun q => by have := ((PL45 g2).1 q).1; omega)
    have g3 := of_decide_eq_false (show decide ((a : Int) < 2) = false from g)
    have e2 : IntKind.i64.wrap ((a : Int) - 2) = ((a - 2 : Nat) : Int) := by rw [wrapS _ ⟨by omega, by omega⟩]; omega
    have e2' : (IntKind.i64.wrap ((a : Int) - 2)).toNat = a - 2 := by rw [e2]; omega
    intro _; refine ⟨by rw [e2]; omega, ?_⟩
    intro _
    refine call_pure [] (rW_ok (by' s (IntKind.i64.wrap ((a : Int) - 2)).toNat)) rfl rfl rfl ?_ ?_ ?_
    · (repeat' first | exact trivial | exact rfl | refine And.intro ?_ ?_)
    · (repeat' first | exact trivial | exact rfl | refine And.intro ?_ ?_)
    intro v hv _
    subst hv
    intro _; refine ⟨show 0 ≤ (a : Int) ∧ (a : Int) < (s.length : Int) by omega, ?_⟩
    intro _
    refine call_pure [] (rW_ok (by' s (a : Int).toNat)) rfl rfl rfl ?_ ?_ ?_
    · (repeat' first | exact trivial | exact rfl | refine And.intro ?_ ?_)
    · (repeat' first | exact trivial | exact rfl | refine And.intro ?_ ?_)
    intro v hv _
    subst hv
    intro _; refine ⟨fun g => ?_, fun g => ?_⟩
    · have g4 : isW (by' s (a - 2)) := by
        have := of_decide_eq_true (show decide (isW (by' s (IntKind.i64.wrap ((a : Int) - 2)).toNat)) = true from g)
        rwa [e2'] at this
      intro _
      refine ⟨_, cv2 (b1 := decide (isW (by' s (a : Int).toNat))) (b2 := false) (.inr rfl) (.inl rfl), ?_, rfl⟩
      rw [decide_eq_false (fun q : PL bf bh kp s a ∧ HY s a => hH q.2)]
      rw [decide_eq_decide.2 (show isW (by' s (a : Int).toNat) ↔ PL bf bh kp s a from by rw [PL45 g2]; exact ⟨fun q => ⟨by omega, g4, q⟩, fun q => q.2.2⟩)]
    have g4 : ¬ isW (by' s (a - 2)) := by
      have := of_decide_eq_false (show decide (isW (by' s (IntKind.i64.wrap ((a : Int) - 2)).toNat)) = false from g)
      rwa [e2'] at this
    intro _
    exact no (fun q => g4 ((PL45 g2).1 q).2.1)
  have g2 : ¬ by' s (a - 1) = 45 := by
    have := beq_eq_false_iff_ne.1 (show (by' s (IntKind.i64.wrap ((a : Int) - 1)).toNat == 45) = false from g)
    rwa [e1'] at this
  intro _; refine ⟨fun g => ?_, fun g => ?_⟩
  · have g3 : ¬ by' s (a - 1) = 126 := by
      have := show (by' s (IntKind.i64.wrap ((a : Int) - 1)).toNat != 126) = true from g
      rwa [bne_iff_ne, e1'] at this
    intro _
    exact no (PLno g1 g2 g3)
  have g3 : by' s (a - 1) = 126 := by
    have := show (by' s (IntKind.i64.wrap ((a : Int) - 1)).toNat != 126) = false from g
    rwa [bne_eq_false_iff_eq, e1'] at this
  intro _; refine ⟨fun g => ?_, fun g => ?_⟩
  · have g4 := of_decide_eq_true (show decide ((a : Int) < 2) = true from g)
    intro _
    exact no (fun q => by have := ((PL126 g3).1 q).1; omega)
  have g4 := of_decide_eq_false (show decide ((a : Int) < 2) = false from g)
  have e2 : IntKind.i64.wrap ((a : Int) - 2) = ((a - 2 : Nat) : Int) := by rw [wrapS _ ⟨by omega, by omega⟩]; omega
  have e2' : (IntKind.i64.wrap ((a : Int) - 2)).toNat = a - 2 := by rw [e2]; omega
  intro _; refine ⟨by rw [e2]; omega, ?_⟩
  intro _
  refine call_pure [] (rL_ok (by' s (IntKind.i64.wrap ((a : Int) - 2)).toNat)) rfl rfl rfl ?_ ?_ ?_
  · (repeat' first | exact trivial | exact rfl | refine And.intro ?_ ?_)
  · (repeat' first | exact trivial | exact rfl | refine And.intro ?_ ?_)
  intro v hv _
  subst hv
  intro _; refine ⟨fun g => ?_, fun g => ?_⟩
  · have g5 : ¬ isL (by' s (a - 2)) := by
      have := show (!decide (isL (by' s (IntKind.i64.wrap ((a : Int) - 2)).toNat))) = true from g
      rw [Bool.not_eq_true', e2'] at this; exact of_decide_eq_false this
    intro _
    exact no (fun q => g5 ((PL126 g3).1 q).2.1)
  have g5 : isL (by' s (a - 2)) := by
    have := show (!decide (isL (by' s (IntKind.i64.wrap ((a : Int) - 2)).toNat))) = false from g
    rw [Bool.not_eq_false', e2'] at this; exact of_decide_eq_true this
  have e21 : a - 2 + 1 = a - 1 := by omega
  intro _
  refine call_pure [] (runB_ok s (a - 2) (by omega) hl g5 (IntKind.i64.wrap ((a : Int) - 2)) e2) rfl rfl rfl ?_ ?_ ?_
  · (repeat' first | exact trivial | exact rfl | refine And.intro ?_ ?_)
  · (repeat' first | exact trivial | exact rfl | refine And.intro ?_ ?_)
  intro v hv _
  rw [e21] at hv
  subst hv
  intro _
  refine call_pure [] (runF_ok s a (by omega) hl) rfl rfl rfl ?_ ?_ ?_
  · (repeat' first | exact trivial | exact rfl | refine And.intro ?_ ?_)
  · (repeat' first | exact trivial | exact rfl | refine And.intro ?_ ?_)
  intro v hv _
  subst hv
  intro _; refine ⟨fun g => ?_, fun g => ?_⟩
  · have g6 := of_decide_eq_true (show decide (BF s (a - 1) < bf) = true from g)
    intro _
    exact no (fun q => by have := ((PL126 g3).1 q).2.2.1; omega)
  have g6 := of_decide_eq_false (show decide (BF s (a - 1) < bf) = false from g)
  intro _; refine ⟨fun g => ?_, fun g => ?_⟩
  · have g7 := of_decide_eq_true (show decide (FB s a < bh) = true from g)
    intro _
    exact no (fun q => by have := ((PL126 g3).1 q).2.2.2.1; omega)
  have g7 := of_decide_eq_false (show decide (FB s a < bh) = false from g)
  intro _
  refine call_pure [(0, some 0)] (kept_ok bf bh kp (by' s (a - 2)) (fy s a) hV) rfl rfl rfl ?_ ?_ ?_
  · (repeat' first | exact trivial | exact rfl | refine And.intro ?_ ?_)
  · (repeat' first | exact trivial | exact rfl | refine And.intro ?_ ?_)
  intro v hv _
  subst hv
  intro _
  have ek : (!decide (inK kp (by' s (a - 2)) (fy s a))) = decide (PL bf bh kp s a) := by
    by_cases q : inK kp (by' s (a - 2)) (fy s a)
    · rw [decide_eq_true q, decide_eq_false (fun w => ((PL126 g3).1 w).2.2.2.2 q)]; rfl
    · rw [decide_eq_false q, decide_eq_true ((PL126 g3).2 ⟨by omega, g5, by omega, by omega, q⟩)]; rfl
  have eh : decide (PL bf bh kp s a ∧ HY s a) = decide (PL bf bh kp s a) := decide_eq_decide.2 ⟨fun q => q.1, fun q => ⟨q, g3⟩⟩
  refine ⟨_, cv2 (b1 := !decide (inK kp (by' s (a - 2)) (fy s a))) (b2 := !decide (inK kp (by' s (a - 2)) (fy s a))) (.inr rfl) (.inr rfl), ?_, rfl⟩
  rw [ek, eh]
/-- the list of places before one -/
def lst (bf bh : Int) (kp : LD) (s : List UInt8) : Nat → LD
  | 0 => []
  | m + 1 => lst bf bh kp s m ++ (if 1 ≤ m ∧ PL bf bh kp s m then [[.n (m : Int), .b (decide (HY s m))]] else [])
theorem lst_len (bf bh : Int) (kp : LD) (s : List UInt8) : ∀ m, List.length (lst bf bh kp s m) ≤ m
  | 0 => by simp [lst]
  | m + 1 => by
    have := lst_len bf bh kp s m
    simp only [lst, List.length_append]
    split <;> simp <;> omega
theorem lst_1 (bf bh : Int) (kp : LD) (s : List UInt8) : lst bf bh kp s 1 = [] := by
  simp [lst]
def LS (bf bh : Int) (kp : LD) (s : List UInt8) : LD := if VB bf bh kp ∧ VA s then lst bf bh kp s s.length else []
def LE (bf bh : Int) (kp : LD) (s : List UInt8) : Int := if VB bf bh kp ∧ VA s then 0 else 1
def LQ (bf bh : Int) (kp : LD) (s : List UInt8) : V → H → Prop := fun v h' => v = .tup [.grw 1 (LS bf bh kp s).length, .int .i64 (LE bf bh kp s)] ∧ h' = ⟨2, 1, [(1, .arr [.int .i64, .bool] .grow (.recs (LS bf bh kp s)))]⟩
theorem rList_ok (bf bh : Int) (kp : LD) (s : List UInt8) (hl : s.length ≤ 9223372036854775807) : SemF Try.prog 11 [.agg [.int .i64 bf, .int .i64 bh, .slc 0 1 0 kp.length], .str s] ⟨1, 1, [(0, .arr [.str] .rd (.recs kp))]⟩ (LQ bf bh kp s) := by
  refine SemF.ret ?_
  refine enter tt_ok Try.func11 (nt := 43) (cd := body Try.f11) rfl rfl rfl rfl ?_
  intro _
  refine call_pure [(0, some 0)] (rValid_ok bf bh kp) rfl rfl rfl ?_ ?_ ?_
  · (repeat' first | exact trivial | exact rfl | refine And.intro ?_ ?_)
  · (repeat' first | exact trivial | exact rfl | refine And.intro ?_ ?_)
  intro v hv _
  subst hv
  intro _
  refine call_pure [] (rvalid_ok s hl) rfl rfl rfl ?_ ?_ ?_
  · (repeat' first | exact trivial | exact rfl | refine And.intro ?_ ?_)
  · (repeat' first | exact trivial | exact rfl | refine And.intro ?_ ?_)
  intro v hv _
  subst hv
  have noV : ¬ (VB bf bh kp ∧ VA s) → LS bf bh kp s = [] ∧ LE bf bh kp s = 1 := fun h => by
    unfold LS LE; rw [if_neg h, if_neg h]; exact ⟨rfl, rfl⟩
  intro _; refine ⟨fun g => ?_, fun g => ?_⟩
  · have g : ¬ VB bf bh kp := by
      have := show (!decide (VB bf bh kp)) = true from g
      rw [Bool.not_eq_true'] at this; exact of_decide_eq_false this
    obtain ⟨x1, x2⟩ := noV (fun h => g h.1)
    intro _
    refine ⟨[(1, none)], .tup [.grw 1 0, .int .i64 1], ⟨2, 1, [(1, .arr [.int .i64, .bool] .grow (.recs []))]⟩, rfl, rfl, rfl, rfl, ?_, ?_, ?_, ?_⟩
    · (repeat' first | exact trivial | exact rfl | refine And.intro ?_ ?_)
    · (repeat' first | exact trivial | exact rfl | refine And.intro ?_ ?_)
    · rw [x1, x2]; rfl
    · rw [x1]
  have hVB : VB bf bh kp := by
    have := show (!decide (VB bf bh kp)) = false from g
    rw [Bool.not_eq_false'] at this; exact of_decide_eq_true this
  intro _; refine ⟨fun g => ?_, fun g => ?_⟩
  · have g : ¬ VA s := by
      have := show (!decide (VA s)) = true from g
      rw [Bool.not_eq_true'] at this; exact of_decide_eq_false this
    obtain ⟨x1, x2⟩ := noV (fun h => g h.2)
    intro _
    refine ⟨[(1, none)], .tup [.grw 1 0, .int .i64 1], ⟨2, 1, [(1, .arr [.int .i64, .bool] .grow (.recs []))]⟩, rfl, rfl, rfl, rfl, ?_, ?_, ?_, ?_⟩
    · (repeat' first | exact trivial | exact rfl | refine And.intro ?_ ?_)
    · (repeat' first | exact trivial | exact rfl | refine And.intro ?_ ?_)
    · rw [x1, x2]; rfl
    · rw [x1]
  have hVA : VA s := by
    have := show (!decide (VA s)) = false from g
    rw [Bool.not_eq_false'] at this; exact of_decide_eq_true this
  have hl2 := hVA.1
  have xS : LS bf bh kp s = lst bf bh kp s s.length := by unfold LS; rw [if_pos ⟨hVB, hVA⟩]
  have xE : LE bf bh kp s = 0 := by unfold LE; rw [if_pos ⟨hVB, hVA⟩]
  intro _
  refine loop2 tt_ok [9, 8] [2] 3 (fun m : { m : Nat // 1 ≤ m ∧ (m ≤ s.length ∨ m = 1) } => [(9, .int .i64 (m.1 : Nat)), (8, .grw 2 (lst bf bh kp s m.1).length)]) (fun m => [(2, .arr [.int .i64, .bool] .grow (.recs (lst bf bh kp s m.1)))]) (fun m => s.length + 1 - m.1) ⟨1, by omega, by omega⟩ ?_
  intro _
  refine ⟨⟨th [(2, none)] 3, rfl, rfl, rfl, rfl, rfl, rfl, ?_, ?_⟩, ?_⟩
  · (repeat' first | exact trivial | exact rfl | refine And.intro ?_ ?_)
  · (repeat' first | exact trivial | exact rfl | refine And.intro ?_ ?_)
  intro ⟨m, h1, h2⟩
  have hll := lst_len bf bh kp s m
  intro _; refine ⟨fun g => ?_, fun g => ?_⟩
  rotate_left
  · have g := of_decide_eq_false (show decide ((m : Int) < (s.length : Int)) = false from g)
    have e : lst bf bh kp s m = lst bf bh kp s s.length := by
      rcases h2 with h2 | h2
      · rw [show m = s.length by omega]
      · subst h2
        rcases Nat.eq_zero_or_pos s.length with q | q
        · rw [q, lst_1]; rfl
        · rw [show s.length = 1 by omega]
    intro _
    refine ⟨[(1, some 2)], .tup [.grw 1 (lst bf bh kp s m).length, .int .i64 0], ⟨2, 1, [(1, .arr [.int .i64, .bool] .grow (.recs (lst bf bh kp s m)))]⟩, rfl, rfl, rfl, rfl, ?_, ?_, ?_, ?_⟩
    · (repeat' first | exact trivial | exact rfl | refine And.intro ?_ ?_)
    · (repeat' first | exact trivial | exact rfl | refine And.intro ?_ ?_)
    · rw [xS, xE, e]
    · rw [xS, e]
  have g := of_decide_eq_true (show decide ((m : Int) < (s.length : Int)) = true from g)
  intro _
  refine call_pure [(0, some 0)] (place_ok bf bh kp s m hVB h1 (by omega) hl2) rfl rfl rfl ?_ ?_ ?_
  · (repeat' first | exact trivial | exact rfl | refine And.intro ?_ ?_)
  · (repeat' first | exact trivial | exact rfl | refine And.intro ?_ ?_)
  intro v hv _
  subst hv
  have ls : lst bf bh kp s (m + 1) = lst bf bh kp s m ++ (if 1 ≤ m ∧ PL bf bh kp s m then [[.n (m : Int), .b (decide (HY s m))]] else []) := rfl
  intro _; refine ⟨fun g => ?_, fun g => ?_⟩
  · have gp := of_decide_eq_true (show decide (PL bf bh kp s m) = true from g)
    have eh : decide (PL bf bh kp s m ∧ HY s m) = decide (HY s m) := decide_eq_decide.2 ⟨fun q => q.2, fun q => ⟨gp, q⟩⟩
    rw [if_pos ⟨h1, gp⟩] at ls
    intro _; refine ⟨rfl, ?_⟩
    intro _; refine ⟨fun g3 => by simp at g3, fun _ => ?_⟩
    refine ⟨⟨rfl, show (lst bf bh kp s m).length + 1 ≤ 4611686018427387904 by omega, show ((lst bf bh kp s m).length + 1) * 16 ≤ 140737488355328 by omega⟩, ?_⟩
    refine ⟨⟨m + 1, by omega, by omega⟩, by simp only []; omega, th [(2, some 4)] 3, rfl, rfl, rfl, rfl, rfl, rfl, ?_, ?_⟩
    · (repeat' first | exact trivial | exact rfl | refine And.intro ?_ ?_)
      · exact (wrap_nat m (by omega)).symm
      · rw [ls, List.length_append]; (repeat' first | exact trivial | exact rfl | refine And.intro ?_ ?_)
    · (repeat' first | exact trivial | exact rfl | refine And.intro ?_ ?_)
      rw [ls]
      exact (show lst bf bh kp s m ++ [[.n (m : Int), .b (decide (HY s m))]] = lst bf bh kp s m ++ [[.n (m : Int), .b (decide (PL bf bh kp s m ∧ HY s m))]] by rw [eh])
  have gp := of_decide_eq_false (show decide (PL bf bh kp s m) = false from g)
  rw [if_neg (fun q => gp q.2), List.append_nil] at ls
  refine ⟨⟨m + 1, by omega, by omega⟩, by simp only []; omega, th [] 3, rfl, rfl, rfl, rfl, rfl, rfl, ?_, ?_⟩
  · (repeat' first | exact trivial | exact rfl | refine And.intro ?_ ?_)
    · exact (wrap_nat m (by omega)).symm
    · rw [ls]; (repeat' first | exact trivial | exact rfl | refine And.intro ?_ ?_)
  · (repeat' first | exact trivial | exact rfl | refine And.intro ?_ ?_)
    rw [ls]; (repeat' first | exact trivial | exact rfl | refine And.intro ?_ ?_)
set_option maxRecDepth 100000
theorem BG_of {s : List UInt8} (m : Nat) (h : BG s (m - 1)) : BG s (m + 1 - 1) := by
  obtain ⟨j, a, b⟩ := h
  exact ⟨j, by omega, b⟩
theorem BG_no {s : List UInt8} (m : Nat) (h : ¬ BG s (m - 1)) (h1 : 1 ≤ m) (e1' : (IntKind.i64.wrap ((m : Int) - 1)).toNat = m - 1) : decide (BG s (m + 1 - 1)) = (by' s (IntKind.i64.wrap ((m : Int) - 1)).toNat != 32) := by
  rw [e1']
  by_cases q : by' s (m - 1) = 32
  · have hn : ¬ BG s (m + 1 - 1) := fun ⟨j, a, b⟩ => by
      rcases Nat.lt_or_ge j (m - 1) with w | w
      · exact h ⟨j, w, b⟩
      · have : j = m - 1 := by omega
        subst this; exact b q
    rw [q, decide_eq_false hn]; rfl
  · rw [decide_eq_true (show BG s (m + 1 - 1) from ⟨m - 1, by omega, q⟩)]
    exact (bne_iff_ne.2 q).symm
theorem two {k : List UInt8} (h : k.length = 2) {x y : Int} (hx : 0 ≤ x ∧ x ≤ 255) (hy : 0 ≤ y ∧ y ≤ 255) : k = ([x, y].map fun n : Int => UInt8.ofNat n.toNat) ↔ by' k 0 = x ∧ by' k 1 = y := by
  match k, h with
  | [a, b], _ =>
    have e : ∀ (c : UInt8) (z : Int), 0 ≤ z ∧ z ≤ 255 → (c = UInt8.ofNat z.toNat ↔ (c.toNat : Int) = z) := fun c z hz => by
      refine ⟨fun q => ?_, fun q => ?_⟩
      · rw [q]
        have : (UInt8.ofNat z.toNat).toNat = z.toNat := by rw [UInt8.toNat_ofNat']; omega
        omega
      · subst q; simp
    show [a, b] = [_, _] ↔ ((a.toNat : Int) = x ∧ (b.toNat : Int) = y)
    rw [← e a x hx, ← e b y hy]
    simp
theorem inS_inK {bf bh : Int} {kp : LD} (hV : VB bf bh kp) {x y : Int} (hx : 0 ≤ x ∧ x ≤ 255) (hy : 0 ≤ y ∧ y ≤ 255) : inS kp kp.length ([x, y].map fun n : Int => UInt8.ofNat n.toNat) ↔ inK kp x y := by
  unfold inS inK
  exact ⟨fun ⟨j, a, b⟩ => ⟨j, a, (two (hV.2.2.2 j a).1.1 hx hy).1 b⟩, fun ⟨j, a, b⟩ => ⟨j, a, (two (hV.2.2.2 j a).1.1 hx hy).2 b⟩⟩
theorem flr_bd : ∀ (u : List UInt8), 0 ≤ flr u ∧ flr u ≤ 255
  | [] => by simp [flr]
  | b :: l => by
    have := flr_bd l
    have h := b.toNat_lt
    simp only [flr]; split <;> omega
set_option maxHeartbeats 4000000 in
theorem List_ok (bf bh : Int) (kp : LD) (s : List UInt8) (hl : s.length ≤ 9223372036854775807) : SemF Try.prog 10 [.agg [.int .i64 bf, .int .i64 bh, .slc 0 1 0 kp.length], .str s] ⟨1, 1, [(0, .arr [.str] .rd (.recs kp))]⟩ (LQ bf bh kp s) := by
  refine SemF.ret ?_
  refine enter tt_ok Try.func10 (nt := 25) (cd := body Try.f10) rfl rfl rfl rfl ?_
  intro _
  refine call_pure [(0, some 0)] (Valid_ok bf bh kp) rfl rfl rfl ?_ ?_ ?_
  · (repeat' first | exact trivial | exact rfl | refine And.intro ?_ ?_)
  · (repeat' first | exact trivial | exact rfl | refine And.intro ?_ ?_)
  intro v hv _
  subst hv
  have noV : ¬ (VB bf bh kp ∧ VA s) → LS bf bh kp s = [] ∧ LE bf bh kp s = 1 := fun h => by
    unfold LS LE; rw [if_neg h, if_neg h]; exact ⟨rfl, rfl⟩
  intro _; refine ⟨fun g => ?_, fun g => ?_⟩
  · have g : ¬ VB bf bh kp := by
      have := show (!decide (VB bf bh kp)) = true from g
      rw [Bool.not_eq_true'] at this; exact of_decide_eq_false this
    obtain ⟨x1, x2⟩ := noV (fun h => g h.1)
    intro _
    refine ⟨[(1, none)], .tup [.grw 1 0, .int .i64 1], ⟨2, 1, [(1, .arr [.int .i64, .bool] .grow (.recs []))]⟩, rfl, rfl, rfl, rfl, ?_, ?_, ?_, ?_⟩
    · (repeat' first | exact trivial | exact rfl | refine And.intro ?_ ?_)
    · (repeat' first | exact trivial | exact rfl | refine And.intro ?_ ?_)
    · rw [x1, x2]; rfl
    · rw [x1]
  have hVB : VB bf bh kp := by
    have := show (!decide (VB bf bh kp)) = false from g
    rw [Bool.not_eq_false'] at this; exact of_decide_eq_true this
  intro _
  refine call_pure [] (valid_ok s hl) rfl rfl rfl ?_ ?_ ?_
  · (repeat' first | exact trivial | exact rfl | refine And.intro ?_ ?_)
  · (repeat' first | exact trivial | exact rfl | refine And.intro ?_ ?_)
  intro v hv _
  subst hv
  intro _; refine ⟨fun g => ?_, fun g => ?_⟩
  · have g : ¬ VA s := by
      have := show (!decide (VA s)) = true from g
      rw [Bool.not_eq_true'] at this; exact of_decide_eq_false this
    obtain ⟨x1, x2⟩ := noV (fun h => g h.2)
    intro _
    refine ⟨[(1, none)], .tup [.grw 1 0, .int .i64 1], ⟨2, 1, [(1, .arr [.int .i64, .bool] .grow (.recs []))]⟩, rfl, rfl, rfl, rfl, ?_, ?_, ?_, ?_⟩
    · (repeat' first | exact trivial | exact rfl | refine And.intro ?_ ?_)
    · (repeat' first | exact trivial | exact rfl | refine And.intro ?_ ?_)
    · rw [x1, x2]; rfl
    · rw [x1]
  have hVA : VA s := by
    have := show (!decide (VA s)) = false from g
    rw [Bool.not_eq_false'] at this; exact of_decide_eq_true this
  have hl2 := hVA.1
  have xS : LS bf bh kp s = lst bf bh kp s s.length := by unfold LS; rw [if_pos ⟨hVB, hVA⟩]
  have xE : LE bf bh kp s = 0 := by unfold LE; rw [if_pos ⟨hVB, hVA⟩]
  have hk20 := hVB.2.2.1
  intro _
  refine enter tt_ok Try.func21 (nt := 6) (cd := body Try.f21) rfl rfl rfl rfl ?_
  intro _
  intro _
  refine range_ok ?_
  intro _
  refine enter tt_ok Try.func32 (nt := 131) (cd := body Try.f32) rfl rfl rfl rfl ?_
  intro _
  refine loop2 tt_ok [18] [7] 8 (fun i : { i : Nat // i ≤ kp.length } => [(18, .int .i64 (i.1 : Nat))]) (fun i => [(7, .smap [.bool] false (SM kp i.1))]) (fun i => kp.length - i.1) ⟨0, by omega⟩ ?_
  intro _
  refine ⟨⟨th [] 8, rfl, rfl, rfl, rfl, rfl, rfl, ?_, ?_⟩, ?_⟩
  · (repeat' first | exact trivial | exact rfl | refine And.intro ?_ ?_)
  · (repeat' first | exact trivial | exact rfl | refine And.intro ?_ ?_)
  intro ⟨i, hi⟩
  intro _; refine ⟨fun g => ?_, fun g => ?_⟩
  · have g := of_decide_eq_true (show decide ((i : Int) < (kp.length : Int)) = true from g)
    have ei : 0 + (i : Int).toNat = i := by omega
    intro _; refine ⟨show 0 ≤ (i : Int) ∧ (i : Int) < (kp.length : Int) by omega, ?_⟩
    intro _; refine ⟨show 0 + (i : Int).toNat < kp.length by omega, ?_⟩
    refine ⟨⟨i + 1, by omega⟩, by simp only []; omega, th [] 8, rfl, rfl, rfl, rfl, rfl, rfl, ?_, ?_⟩
    · (repeat' first | exact trivial | exact rfl | refine And.intro ?_ ?_)
      exact (wrap_nat i (by omega)).symm
    · (repeat' first | exact trivial | exact rfl | refine And.intro ?_ ?_)
      exact (show mputS (SM kp i) (kS kp i) [.b true] = mputS (SM kp i) (kS kp (0 + (i : Int).toNat)) [.b true] by rw [ei])
  have g := of_decide_eq_false (show decide ((i : Int) < (kp.length : Int)) = false from g)
  have hik : i = kp.length := by omega
  subst hik
  have hFL := mk_len (s.length + 1) (FB s)
  intro _
  refine call_new [] (letters_ok s hl2) rfl rfl rfl rfl ?_ ?_ ?_
  · (repeat' first | exact trivial | exact rfl | refine And.intro ?_ ?_)
  · (repeat' first | exact trivial | exact rfl | refine And.intro ?_ ?_)
  intro v h' hv
  obtain ⟨rfl, rfl⟩ := hv
  refine ⟨[(8, some 0)], 9, [(8, .arr [.int .i64] .own (.ints (mk (s.length + 1) (FB s))))], .grw 8 (s.length + 1), rfl, rfl, rfl, rfl, rfl, ?_, ?_, ?_⟩
  · (repeat' first | exact trivial | exact rfl | refine And.intro ?_ ?_)
  · (repeat' first | exact trivial | exact rfl | refine And.intro ?_ ?_)
  intro _
  refine loop2 tt_ok [10, 7, 9] [2, 9] 10 (fun m : { m : Nat // 1 ≤ m ∧ (m ≤ s.length ∨ m = 1) } => [(10, .int .i64 (m.1 : Nat)), (7, .test (decide (BG s (m.1 - 1)))), (9, .int .i64 (BF s (m.1 - 1)))]) (fun m => [(2, .cells [.grw 9 (lst bf bh kp s m.1).length]), (9, .arr [.int .i64, .bool] .grow (.recs (lst bf bh kp s m.1)))]) (fun m => s.length + 1 - m.1) ⟨1, by omega, by omega⟩ ?_
  intro _
  refine ⟨⟨th [(9, none)] 10, rfl, rfl, rfl, rfl, rfl, rfl, ?_, ?_⟩, ?_⟩
  · (repeat' first | exact trivial | exact rfl | refine And.intro ?_ ?_)
  · (repeat' first | exact trivial | exact rfl | refine And.intro ?_ ?_)
  intro ⟨m, h1, h2⟩
  have hll := lst_len bf bh kp s m
  intro _; refine ⟨fun g => ?_, fun g => ?_⟩
  rotate_left
  · have g := of_decide_eq_false (show decide ((m : Int) < (s.length : Int)) = false from g)
    have e : lst bf bh kp s m = lst bf bh kp s s.length := by
      rcases h2 with h2 | h2
      · rw [show m = s.length by omega]
      · subst h2
        rcases Nat.eq_zero_or_pos s.length with q | q
        · rw [q, lst_1]; rfl
        · rw [show s.length = 1 by omega]
    intro _
    intro _
    refine ⟨[(1, some 9)], .tup [.grw 1 (lst bf bh kp s m).length, .int .i64 0], ⟨2, 1, [(1, .arr [.int .i64, .bool] .grow (.recs (lst bf bh kp s m)))]⟩, rfl, rfl, rfl, rfl, ?_, ?_, ?_, ?_⟩
    · (repeat' first | exact trivial | exact rfl | refine And.intro ?_ ?_)
    · (repeat' first | exact trivial | exact rfl | refine And.intro ?_ ?_)
    · rw [xS, xE, e]
    · rw [xS, e]
  have g := of_decide_eq_true (show decide ((m : Int) < (s.length : Int)) = true from g)
  have hms : m < s.length := by omega
  have ls : lst bf bh kp s (m + 1) = lst bf bh kp s m ++ (if 1 ≤ m ∧ PL bf bh kp s m then [[.n (m : Int), .b (decide (HY s m))]] else []) := rfl
  have e1 : IntKind.i64.wrap ((m : Int) - 1) = ((m - 1 : Nat) : Int) := by rw [wrapS _ ⟨by omega, by omega⟩]; omega
  have e1' : (IntKind.i64.wrap ((m : Int) - 1)).toNat = m - 1 := by rw [e1]; omega
  have hbf := BF_bd s (m - 1)
  have eBF : BF s (m + 1 - 1) = fo (BF s (m - 1)) (by' s (IntKind.i64.wrap ((m : Int) - 1)).toNat) := by
    rw [e1', Nat.add_sub_cancel]
    obtain ⟨q, rfl⟩ : ∃ q, m = q + 1 := ⟨m - 1, by omega⟩
    rfl
  intro _; refine ⟨by rw [e1]; omega, ?_⟩
  intro _; refine ⟨fun g => ?_, fun g => ?_⟩
  · have g1 : by' s (m - 1) = 32 := by
      have := eq_of_beq (show (by' s (IntKind.i64.wrap ((m : Int) - 1)).toNat == 32) = true from g)
      rwa [e1'] at this
    have hHY : decide (HY s m) = false := decide_eq_false (by unfold HY; omega)
    intro _; refine ⟨fun g => ?_, fun g => ?_⟩
    · have g2 := of_decide_eq_true (show decide (BG s (m - 1)) = true from g)
      intro _; refine ⟨show 0 ≤ (m : Int) ∧ (m : Int) < (s.length : Int) by omega, ?_⟩
      intro _; refine ⟨fun g => ?_, fun g => ?_⟩
      · have hB := of_decide_eq_true (show decide (BG s (m - 1)) = true from g)
        intro _; refine ⟨by rw [e1]; omega, ?_⟩
        intro _
        refine call_pure [] (follow_ok (BF s (m - 1)) (by' s (IntKind.i64.wrap ((m : Int) - 1)).toNat) (by_range _ _) (by omega)) rfl rfl rfl ?_ ?_ ?_
        · (repeat' first | exact trivial | exact rfl | refine And.intro ?_ ?_)
        · (repeat' first | exact trivial | exact rfl | refine And.intro ?_ ?_)
        intro v hv _
        subst hv
        intro _; refine ⟨fun g => ?_, fun g => ?_⟩
        · have hPL : PL bf bh kp s m := (PL32 g1).2 ⟨g2, bne_iff_ne.1 (show (by' s (m : Int).toNat != 32) = true from g)⟩
          rw [if_pos ⟨h1, hPL⟩] at ls
          intro _
          refine yield_ok tt_ok ?_
          intro _; refine ⟨rfl, ?_⟩
          intro _; refine ⟨fun g3 => by simp at g3, fun _ => ?_⟩
          refine ⟨⟨rfl, show (lst bf bh kp s m).length + 1 ≤ 4611686018427387904 by omega, show ((lst bf bh kp s m).length + 1) * 16 ≤ 140737488355328 by omega⟩, ?_⟩
          intro _
          refine ⟨⟨m + 1, by omega, by omega⟩, by simp only []; omega, th [(9, some 13)] 10, rfl, rfl, rfl, rfl, rfl, rfl, ?_, ?_⟩
          · (repeat' first | exact trivial | exact rfl | refine And.intro ?_ ?_)
            · exact (wrap_nat m (by omega)).symm
            · exact (decide_eq_true (BG_of m hB))
            · exact eBF
          · (repeat' first | exact trivial | exact rfl | refine And.intro ?_ ?_)
            · rw [ls, List.length_append]; (repeat' first | exact trivial | exact rfl | refine And.intro ?_ ?_)
            · rw [ls, hHY]; (repeat' first | exact trivial | exact rfl | refine And.intro ?_ ?_)
        have hPL : ¬ PL bf bh kp s m := fun q => ((PL32 g1).1 q).2 (bne_eq_false_iff_eq.1 (show (by' s (m : Int).toNat != 32) = false from g))
        rw [if_neg (fun q => hPL q.2), List.append_nil] at ls
        refine ⟨⟨m + 1, by omega, by omega⟩, by simp only []; omega, th [] 10, rfl, rfl, rfl, rfl, rfl, rfl, ?_, ?_⟩
        · (repeat' first | exact trivial | exact rfl | refine And.intro ?_ ?_)
          · exact (wrap_nat m (by omega)).symm
          · exact (decide_eq_true (BG_of m hB))
          · exact eBF
        · (repeat' first | exact trivial | exact rfl | refine And.intro ?_ ?_)
          all_goals (rw [ls]; (repeat' first | exact trivial | exact rfl | refine And.intro ?_ ?_))
      have hB := of_decide_eq_false (show decide (BG s (m - 1)) = false from g)
      have hBt := BG_no m hB h1 e1'
      intro _; refine ⟨by rw [e1]; omega, ?_⟩
      intro _; refine ⟨by rw [e1]; omega, ?_⟩
      intro _
      refine call_pure [] (follow_ok (BF s (m - 1)) (by' s (IntKind.i64.wrap ((m : Int) - 1)).toNat) (by_range _ _) (by omega)) rfl rfl rfl ?_ ?_ ?_
      · (repeat' first | exact trivial | exact rfl | refine And.intro ?_ ?_)
      · (repeat' first | exact trivial | exact rfl | refine And.intro ?_ ?_)
      intro v hv _
      subst hv
      intro _; refine ⟨fun g => ?_, fun g => ?_⟩
      · have hPL : PL bf bh kp s m := (PL32 g1).2 ⟨g2, bne_iff_ne.1 (show (by' s (m : Int).toNat != 32) = true from g)⟩
        rw [if_pos ⟨h1, hPL⟩] at ls
        intro _
        refine yield_ok tt_ok ?_
        intro _; refine ⟨rfl, ?_⟩
        intro _; refine ⟨fun g3 => by simp at g3, fun _ => ?_⟩
        refine ⟨⟨rfl, show (lst bf bh kp s m).length + 1 ≤ 4611686018427387904 by omega, show ((lst bf bh kp s m).length + 1) * 16 ≤ 140737488355328 by omega⟩, ?_⟩
        intro _
        refine ⟨⟨m + 1, by omega, by omega⟩, by simp only []; omega, th [(9, some 13)] 10, rfl, rfl, rfl, rfl, rfl, rfl, ?_, ?_⟩
        · (repeat' first | exact trivial | exact rfl | refine And.intro ?_ ?_)
          · exact (wrap_nat m (by omega)).symm
          · exact hBt
          · exact eBF
        · (repeat' first | exact trivial | exact rfl | refine And.intro ?_ ?_)
          · rw [ls, List.length_append]; (repeat' first | exact trivial | exact rfl | refine And.intro ?_ ?_)
          · rw [ls, hHY]; (repeat' first | exact trivial | exact rfl | refine And.intro ?_ ?_)
      have hPL : ¬ PL bf bh kp s m := fun q => ((PL32 g1).1 q).2 (bne_eq_false_iff_eq.1 (show (by' s (m : Int).toNat != 32) = false from g))
      rw [if_neg (fun q => hPL q.2), List.append_nil] at ls
      refine ⟨⟨m + 1, by omega, by omega⟩, by simp only []; omega, th [] 10, rfl, rfl, rfl, rfl, rfl, rfl, ?_, ?_⟩
      · (repeat' first | exact trivial | exact rfl | refine And.intro ?_ ?_)
        · exact (wrap_nat m (by omega)).symm
        · exact hBt
        · exact eBF
      · (repeat' first | exact trivial | exact rfl | refine And.intro ?_ ?_)
        all_goals (rw [ls]; (repeat' first | exact trivial | exact rfl | refine And.intro ?_ ?_))
    have g2 := of_decide_eq_false (show decide (BG s (m - 1)) = false from g)
    have hPL : ¬ PL bf bh kp s m := fun q => g2 ((PL32 g1).1 q).1
    intro _; refine ⟨fun g => ?_, fun g => ?_⟩
    · have hB := of_decide_eq_true (show decide (BG s (m - 1)) = true from g)
      intro _; refine ⟨by rw [e1]; omega, ?_⟩
      intro _
      refine call_pure [] (follow_ok (BF s (m - 1)) (by' s (IntKind.i64.wrap ((m : Int) - 1)).toNat) (by_range _ _) (by omega)) rfl rfl rfl ?_ ?_ ?_
      · (repeat' first | exact trivial | exact rfl | refine And.intro ?_ ?_)
      · (repeat' first | exact trivial | exact rfl | refine And.intro ?_ ?_)
      intro v hv _
      subst hv
      rw [if_neg (fun q => hPL q.2), List.append_nil] at ls
      refine ⟨⟨m + 1, by omega, by omega⟩, by simp only []; omega, th [] 10, rfl, rfl, rfl, rfl, rfl, rfl, ?_, ?_⟩
      · (repeat' first | exact trivial | exact rfl | refine And.intro ?_ ?_)
        · exact (wrap_nat m (by omega)).symm
        · exact (decide_eq_true (BG_of m hB))
        · exact eBF
      · (repeat' first | exact trivial | exact rfl | refine And.intro ?_ ?_)
        all_goals (rw [ls]; (repeat' first | exact trivial | exact rfl | refine And.intro ?_ ?_))
    have hB := of_decide_eq_false (show decide (BG s (m - 1)) = false from g)
    have hBt := BG_no m hB h1 e1'
    intro _; refine ⟨by rw [e1]; omega, ?_⟩
    intro _; refine ⟨by rw [e1]; omega, ?_⟩
    intro _
    refine call_pure [] (follow_ok (BF s (m - 1)) (by' s (IntKind.i64.wrap ((m : Int) - 1)).toNat) (by_range _ _) (by omega)) rfl rfl rfl ?_ ?_ ?_
    · (repeat' first | exact trivial | exact rfl | refine And.intro ?_ ?_)
    · (repeat' first | exact trivial | exact rfl | refine And.intro ?_ ?_)
    intro v hv _
    subst hv
    rw [if_neg (fun q => hPL q.2), List.append_nil] at ls
    refine ⟨⟨m + 1, by omega, by omega⟩, by simp only []; omega, th [] 10, rfl, rfl, rfl, rfl, rfl, rfl, ?_, ?_⟩
    · (repeat' first | exact trivial | exact rfl | refine And.intro ?_ ?_)
      · exact (wrap_nat m (by omega)).symm
      · exact hBt
      · exact eBF
    · (repeat' first | exact trivial | exact rfl | refine And.intro ?_ ?_)
      all_goals (rw [ls]; (repeat' first | exact trivial | exact rfl | refine And.intro ?_ ?_))
  have g1 : ¬ by' s (m - 1) = 32 := by
    have := beq_eq_false_iff_ne.1 (show (by' s (IntKind.i64.wrap ((m : Int) - 1)).toNat == 32) = false from g)
    rwa [e1'] at this
  intro _; refine ⟨fun g => ?_, fun g => ?_⟩
  · have g2 : by' s (m - 1) = 45 := by
      have := eq_of_beq (show (by' s (IntKind.i64.wrap ((m : Int) - 1)).toNat == 45) = true from g)
      rwa [e1'] at this
    have hHY : decide (HY s m) = false := decide_eq_false (by unfold HY; omega)
    intro _; refine ⟨fun g => ?_, fun g => ?_⟩
    rotate_left
    · have g3 := of_decide_eq_false (show decide ((m : Int) > 1) = false from g)
      have hPL : ¬ PL bf bh kp s m := fun q => by have := ((PL45 g2).1 q).1; omega
      intro _; refine ⟨fun g => ?_, fun g => ?_⟩
      · have hB := of_decide_eq_true (show decide (BG s (m - 1)) = true from g)
        intro _; refine ⟨by rw [e1]; omega, ?_⟩
        intro _
        refine call_pure [] (follow_ok (BF s (m - 1)) (by' s (IntKind.i64.wrap ((m : Int) - 1)).toNat) (by_range _ _) (by omega)) rfl rfl rfl ?_ ?_ ?_
        · (repeat' first | exact trivial | exact rfl | refine And.intro ?_ ?_)
        · (repeat' first | exact trivial | exact rfl | refine And.intro ?_ ?_)
        intro v hv _
        subst hv
        rw [if_neg (fun q => hPL q.2), List.append_nil] at ls
        refine ⟨⟨m + 1, by omega, by omega⟩, by simp only []; omega, th [] 10, rfl, rfl, rfl, rfl, rfl, rfl, ?_, ?_⟩
        · (repeat' first | exact trivial | exact rfl | refine And.intro ?_ ?_)
          · exact (wrap_nat m (by omega)).symm
          · exact (decide_eq_true (BG_of m hB))
          · exact eBF
        · (repeat' first | exact trivial | exact rfl | refine And.intro ?_ ?_)
          all_goals (rw [ls]; (repeat' first | exact trivial | exact rfl | refine And.intro ?_ ?_))
      have hB := of_decide_eq_false (show decide (BG s (m - 1)) = false from g)
      have hBt := BG_no m hB h1 e1'
      intro _; refine ⟨by rw [e1]; omega, ?_⟩
      intro _; refine ⟨by rw [e1]; omega, ?_⟩
      intro _
      refine call_pure [] (follow_ok (BF s (m - 1)) (by' s (IntKind.i64.wrap ((m : Int) - 1)).toNat) (by_range _ _) (by omega)) rfl rfl rfl ?_ ?_ ?_
      · (repeat' first | exact trivial | exact rfl | refine And.intro ?_ ?_)
      · (repeat' first | exact trivial | exact rfl | refine And.intro ?_ ?_)
      intro v hv _
      subst hv
      rw [if_neg (fun q => hPL q.2), List.append_nil] at ls
      refine ⟨⟨m + 1, by omega, by omega⟩, by simp only []; omega, th [] 10, rfl, rfl, rfl, rfl, rfl, rfl, ?_, ?_⟩
      · (repeat' first | exact trivial | exact rfl | refine And.intro ?_ ?_)
        · exact (wrap_nat m (by omega)).symm
        · exact hBt
        · exact eBF
      · (repeat' first | exact trivial | exact rfl | refine And.intro ?_ ?_)
        all_goals (rw [ls]; (repeat' first | exact trivial | exact rfl | refine And.intro ?_ ?_))
    have g3 := of_decide_eq_true (show decide ((m : Int) > 1) = true from g)
    have e2 : IntKind.i64.wrap ((m : Int) - 2) = ((m - 2 : Nat) : Int) := by rw [wrapS _ ⟨by omega, by omega⟩]; omega
    have e2' : (IntKind.i64.wrap ((m : Int) - 2)).toNat = m - 2 := by rw [e2]; omega
    intro _; refine ⟨by rw [e2]; omega, ?_⟩
    intro _
    refine call_pure [] (isW_ok (by' s (IntKind.i64.wrap ((m : Int) - 2)).toNat) (by_range _ _)) rfl rfl rfl ?_ ?_ ?_
    · (repeat' first | exact trivial | exact rfl | refine And.intro ?_ ?_)
    · (repeat' first | exact trivial | exact rfl | refine And.intro ?_ ?_)
    intro v hv _
    subst hv
    intro _; refine ⟨fun g => ?_, fun g => ?_⟩
    rotate_left
    · have g4 : ¬ isW (by' s (m - 2)) := by
        have := of_decide_eq_false (show decide (isW (by' s (IntKind.i64.wrap ((m : Int) - 2)).toNat)) = false from g)
        rwa [e2'] at this
      have hPL : ¬ PL bf bh kp s m := fun q => g4 ((PL45 g2).1 q).2.1
      intro _; refine ⟨fun g => ?_, fun g => ?_⟩
      · have hB := of_decide_eq_true (show decide (BG s (m - 1)) = true from g)
        intro _; refine ⟨by rw [e1]; omega, ?_⟩
        intro _
        refine call_pure [] (follow_ok (BF s (m - 1)) (by' s (IntKind.i64.wrap ((m : Int) - 1)).toNat) (by_range _ _) (by omega)) rfl rfl rfl ?_ ?_ ?_
        · (repeat' first | exact trivial | exact rfl | refine And.intro ?_ ?_)
        · (repeat' first | exact trivial | exact rfl | refine And.intro ?_ ?_)
        intro v hv _
        subst hv
        rw [if_neg (fun q => hPL q.2), List.append_nil] at ls
        refine ⟨⟨m + 1, by omega, by omega⟩, by simp only []; omega, th [] 10, rfl, rfl, rfl, rfl, rfl, rfl, ?_, ?_⟩
        · (repeat' first | exact trivial | exact rfl | refine And.intro ?_ ?_)
          · exact (wrap_nat m (by omega)).symm
          · exact (decide_eq_true (BG_of m hB))
          · exact eBF
        · (repeat' first | exact trivial | exact rfl | refine And.intro ?_ ?_)
          all_goals (rw [ls]; (repeat' first | exact trivial | exact rfl | refine And.intro ?_ ?_))
      have hB := of_decide_eq_false (show decide (BG s (m - 1)) = false from g)
      have hBt := BG_no m hB h1 e1'
      intro _; refine ⟨by rw [e1]; omega, ?_⟩
      intro _; refine ⟨by rw [e1]; omega, ?_⟩
      intro _
      refine call_pure [] (follow_ok (BF s (m - 1)) (by' s (IntKind.i64.wrap ((m : Int) - 1)).toNat) (by_range _ _) (by omega)) rfl rfl rfl ?_ ?_ ?_
      · (repeat' first | exact trivial | exact rfl | refine And.intro ?_ ?_)
      · (repeat' first | exact trivial | exact rfl | refine And.intro ?_ ?_)
      intro v hv _
      subst hv
      rw [if_neg (fun q => hPL q.2), List.append_nil] at ls
      refine ⟨⟨m + 1, by omega, by omega⟩, by simp only []; omega, th [] 10, rfl, rfl, rfl, rfl, rfl, rfl, ?_, ?_⟩
      · (repeat' first | exact trivial | exact rfl | refine And.intro ?_ ?_)
        · exact (wrap_nat m (by omega)).symm
        · exact hBt
        · exact eBF
      · (repeat' first | exact trivial | exact rfl | refine And.intro ?_ ?_)
        all_goals (rw [ls]; (repeat' first | exact trivial | exact rfl | refine And.intro ?_ ?_))
    have g4 : isW (by' s (m - 2)) := by
      have := of_decide_eq_true (show decide (isW (by' s (IntKind.i64.wrap ((m : Int) - 2)).toNat)) = true from g)
      rwa [e2'] at this
    intro _; refine ⟨show 0 ≤ (m : Int) ∧ (m : Int) < (s.length : Int) by omega, ?_⟩
    intro _
    refine call_pure [] (isW_ok (by' s (m : Int).toNat) (by_range _ _)) rfl rfl rfl ?_ ?_ ?_
    · (repeat' first | exact trivial | exact rfl | refine And.intro ?_ ?_)
    · (repeat' first | exact trivial | exact rfl | refine And.intro ?_ ?_)
    intro v hv _
    subst hv
    intro _; refine ⟨fun g => ?_, fun g => ?_⟩
    · have hB := of_decide_eq_true (show decide (BG s (m - 1)) = true from g)
      intro _; refine ⟨by rw [e1]; omega, ?_⟩
      intro _
      refine call_pure [] (follow_ok (BF s (m - 1)) (by' s (IntKind.i64.wrap ((m : Int) - 1)).toNat) (by_range _ _) (by omega)) rfl rfl rfl ?_ ?_ ?_
      · (repeat' first | exact trivial | exact rfl | refine And.intro ?_ ?_)
      · (repeat' first | exact trivial | exact rfl | refine And.intro ?_ ?_)
      intro v hv _
      subst hv
      intro _; refine ⟨fun g => ?_, fun g => ?_⟩
      · have hPL : PL bf bh kp s m := (PL45 g2).2 ⟨by omega, g4, of_decide_eq_true (show decide (isW (by' s (m : Int).toNat)) = true from g)⟩
        rw [if_pos ⟨h1, hPL⟩] at ls
        intro _
        refine yield_ok tt_ok ?_
        intro _; refine ⟨rfl, ?_⟩
        intro _; refine ⟨fun g3 => by simp at g3, fun _ => ?_⟩
        refine ⟨⟨rfl, show (lst bf bh kp s m).length + 1 ≤ 4611686018427387904 by omega, show ((lst bf bh kp s m).length + 1) * 16 ≤ 140737488355328 by omega⟩, ?_⟩
        intro _
        refine ⟨⟨m + 1, by omega, by omega⟩, by simp only []; omega, th [(9, some 13)] 10, rfl, rfl, rfl, rfl, rfl, rfl, ?_, ?_⟩
        · (repeat' first | exact trivial | exact rfl | refine And.intro ?_ ?_)
          · exact (wrap_nat m (by omega)).symm
          · exact (decide_eq_true (BG_of m hB))
          · exact eBF
        · (repeat' first | exact trivial | exact rfl | refine And.intro ?_ ?_)
          · rw [ls, List.length_append]; (repeat' first | exact trivial | exact rfl | refine And.intro ?_ ?_)
          · rw [ls, hHY]; (repeat' first | exact trivial | exact rfl | refine And.intro ?_ ?_)
      have hPL : ¬ PL bf bh kp s m := fun q => of_decide_eq_false (show decide (isW (by' s (m : Int).toNat)) = false from g) ((PL45 g2).1 q).2.2
      rw [if_neg (fun q => hPL q.2), List.append_nil] at ls
      refine ⟨⟨m + 1, by omega, by omega⟩, by simp only []; omega, th [] 10, rfl, rfl, rfl, rfl, rfl, rfl, ?_, ?_⟩
      · (repeat' first | exact trivial | exact rfl | refine And.intro ?_ ?_)
        · exact (wrap_nat m (by omega)).symm
        · exact (decide_eq_true (BG_of m hB))
        · exact eBF
      · (repeat' first | exact trivial | exact rfl | refine And.intro ?_ ?_)
        all_goals (rw [ls]; (repeat' first | exact trivial | exact rfl | refine And.intro ?_ ?_))
    have hB := of_decide_eq_false (show decide (BG s (m - 1)) = false from g)
    have hBt := BG_no m hB h1 e1'
    intro _; refine ⟨by rw [e1]; omega, ?_⟩
    intro _; refine ⟨by rw [e1]; omega, ?_⟩
    intro _
    refine call_pure [] (follow_ok (BF s (m - 1)) (by' s (IntKind.i64.wrap ((m : Int) - 1)).toNat) (by_range _ _) (by omega)) rfl rfl rfl ?_ ?_ ?_
    · (repeat' first | exact trivial | exact rfl | refine And.intro ?_ ?_)
    · (repeat' first | exact trivial | exact rfl | refine And.intro ?_ ?_)
    intro v hv _
    subst hv
    intro _; refine ⟨fun g => ?_, fun g => ?_⟩
    · have hPL : PL bf bh kp s m := (PL45 g2).2 ⟨by omega, g4, of_decide_eq_true (show decide (isW (by' s (m : Int).toNat)) = true from g)⟩
      rw [if_pos ⟨h1, hPL⟩] at ls
      intro _
      refine yield_ok tt_ok ?_
      intro _; refine ⟨rfl, ?_⟩
      intro _; refine ⟨fun g3 => by simp at g3, fun _ => ?_⟩
      refine ⟨⟨rfl, show (lst bf bh kp s m).length + 1 ≤ 4611686018427387904 by omega, show ((lst bf bh kp s m).length + 1) * 16 ≤ 140737488355328 by omega⟩, ?_⟩
      intro _
      refine ⟨⟨m + 1, by omega, by omega⟩, by simp only []; omega, th [(9, some 13)] 10, rfl, rfl, rfl, rfl, rfl, rfl, ?_, ?_⟩
      · (repeat' first | exact trivial | exact rfl | refine And.intro ?_ ?_)
        · exact (wrap_nat m (by omega)).symm
        · exact hBt
        · exact eBF
      · (repeat' first | exact trivial | exact rfl | refine And.intro ?_ ?_)
        · rw [ls, List.length_append]; (repeat' first | exact trivial | exact rfl | refine And.intro ?_ ?_)
        · rw [ls, hHY]; (repeat' first | exact trivial | exact rfl | refine And.intro ?_ ?_)
    have hPL : ¬ PL bf bh kp s m := fun q => of_decide_eq_false (show decide (isW (by' s (m : Int).toNat)) = false from g) ((PL45 g2).1 q).2.2
    rw [if_neg (fun q => hPL q.2), List.append_nil] at ls
    refine ⟨⟨m + 1, by omega, by omega⟩, by simp only []; omega, th [] 10, rfl, rfl, rfl, rfl, rfl, rfl, ?_, ?_⟩
    · (repeat' first | exact trivial | exact rfl | refine And.intro ?_ ?_)
      · exact (wrap_nat m (by omega)).symm
      · exact hBt
      · exact eBF
    · (repeat' first | exact trivial | exact rfl | refine And.intro ?_ ?_)
      all_goals (rw [ls]; (repeat' first | exact trivial | exact rfl | refine And.intro ?_ ?_))
  have g2 : ¬ by' s (m - 1) = 45 := by
    have := beq_eq_false_iff_ne.1 (show (by' s (IntKind.i64.wrap ((m : Int) - 1)).toNat == 45) = false from g)
    rwa [e1'] at this
  intro _; refine ⟨fun g => ?_, fun g => ?_⟩
  rotate_left
  · have g3 : ¬ by' s (m - 1) = 126 := by
      have := beq_eq_false_iff_ne.1 (show (by' s (IntKind.i64.wrap ((m : Int) - 1)).toNat == 126) = false from g)
      rwa [e1'] at this
    have hPL : ¬ PL bf bh kp s m := PLno g1 g2 g3
    intro _; refine ⟨fun g => ?_, fun g => ?_⟩
    · have hB := of_decide_eq_true (show decide (BG s (m - 1)) = true from g)
      intro _; refine ⟨by rw [e1]; omega, ?_⟩
      intro _
      refine call_pure [] (follow_ok (BF s (m - 1)) (by' s (IntKind.i64.wrap ((m : Int) - 1)).toNat) (by_range _ _) (by omega)) rfl rfl rfl ?_ ?_ ?_
      · (repeat' first | exact trivial | exact rfl | refine And.intro ?_ ?_)
      · (repeat' first | exact trivial | exact rfl | refine And.intro ?_ ?_)
      intro v hv _
      subst hv
      rw [if_neg (fun q => hPL q.2), List.append_nil] at ls
      refine ⟨⟨m + 1, by omega, by omega⟩, by simp only []; omega, th [] 10, rfl, rfl, rfl, rfl, rfl, rfl, ?_, ?_⟩
      · (repeat' first | exact trivial | exact rfl | refine And.intro ?_ ?_)
        · exact (wrap_nat m (by omega)).symm
        · exact (decide_eq_true (BG_of m hB))
        · exact eBF
      · (repeat' first | exact trivial | exact rfl | refine And.intro ?_ ?_)
        all_goals (rw [ls]; (repeat' first | exact trivial | exact rfl | refine And.intro ?_ ?_))
    have hB := of_decide_eq_false (show decide (BG s (m - 1)) = false from g)
    have hBt := BG_no m hB h1 e1'
    intro _; refine ⟨by rw [e1]; omega, ?_⟩
    intro _; refine ⟨by rw [e1]; omega, ?_⟩
    intro _
    refine call_pure [] (follow_ok (BF s (m - 1)) (by' s (IntKind.i64.wrap ((m : Int) - 1)).toNat) (by_range _ _) (by omega)) rfl rfl rfl ?_ ?_ ?_
    · (repeat' first | exact trivial | exact rfl | refine And.intro ?_ ?_)
    · (repeat' first | exact trivial | exact rfl | refine And.intro ?_ ?_)
    intro v hv _
    subst hv
    rw [if_neg (fun q => hPL q.2), List.append_nil] at ls
    refine ⟨⟨m + 1, by omega, by omega⟩, by simp only []; omega, th [] 10, rfl, rfl, rfl, rfl, rfl, rfl, ?_, ?_⟩
    · (repeat' first | exact trivial | exact rfl | refine And.intro ?_ ?_)
      · exact (wrap_nat m (by omega)).symm
      · exact hBt
      · exact eBF
    · (repeat' first | exact trivial | exact rfl | refine And.intro ?_ ?_)
      all_goals (rw [ls]; (repeat' first | exact trivial | exact rfl | refine And.intro ?_ ?_))
  have g3 : by' s (m - 1) = 126 := by
    have := eq_of_beq (show (by' s (IntKind.i64.wrap ((m : Int) - 1)).toNat == 126) = true from g)
    rwa [e1'] at this
  have hHY : decide (HY s m) = true := decide_eq_true g3
  intro _; refine ⟨fun g => ?_, fun g => ?_⟩
  rotate_left
  · have g4 := of_decide_eq_false (show decide ((m : Int) > 1) = false from g)
    have hPL : ¬ PL bf bh kp s m := fun q => by have := ((PL126 g3).1 q).1; omega
    intro _; refine ⟨by kernel_rfl, ?_⟩
    intro _; refine ⟨fun g => ?_, fun g => ?_⟩
    · have hB := of_decide_eq_true (show decide (BG s (m - 1)) = true from g)
      intro _; refine ⟨by rw [e1]; omega, ?_⟩
      intro _
      refine call_pure [] (follow_ok (BF s (m - 1)) (by' s (IntKind.i64.wrap ((m : Int) - 1)).toNat) (by_range _ _) (by omega)) rfl rfl rfl ?_ ?_ ?_
      · (repeat' first | exact trivial | exact rfl | refine And.intro ?_ ?_)
      · (repeat' first | exact trivial | exact rfl | refine And.intro ?_ ?_)
      intro v hv _
      subst hv
      rw [if_neg (fun q => hPL q.2), List.append_nil] at ls
      refine ⟨⟨m + 1, by omega, by omega⟩, by simp only []; omega, th [] 10, rfl, rfl, rfl, rfl, rfl, rfl, ?_, ?_⟩
      · (repeat' first | exact trivial | exact rfl | refine And.intro ?_ ?_)
        · exact (wrap_nat m (by omega)).symm
        · exact (decide_eq_true (BG_of m hB))
        · exact eBF
      · (repeat' first | exact trivial | exact rfl | refine And.intro ?_ ?_)
        all_goals (rw [ls]; (repeat' first | exact trivial | exact rfl | refine And.intro ?_ ?_))
    have hB := of_decide_eq_false (show decide (BG s (m - 1)) = false from g)
    have hBt := BG_no m hB h1 e1'
    intro _; refine ⟨by rw [e1]; omega, ?_⟩
    intro _; refine ⟨by rw [e1]; omega, ?_⟩
    intro _
    refine call_pure [] (follow_ok (BF s (m - 1)) (by' s (IntKind.i64.wrap ((m : Int) - 1)).toNat) (by_range _ _) (by omega)) rfl rfl rfl ?_ ?_ ?_
    · (repeat' first | exact trivial | exact rfl | refine And.intro ?_ ?_)
    · (repeat' first | exact trivial | exact rfl | refine And.intro ?_ ?_)
    intro v hv _
    subst hv
    rw [if_neg (fun q => hPL q.2), List.append_nil] at ls
    refine ⟨⟨m + 1, by omega, by omega⟩, by simp only []; omega, th [] 10, rfl, rfl, rfl, rfl, rfl, rfl, ?_, ?_⟩
    · (repeat' first | exact trivial | exact rfl | refine And.intro ?_ ?_)
      · exact (wrap_nat m (by omega)).symm
      · exact hBt
      · exact eBF
    · (repeat' first | exact trivial | exact rfl | refine And.intro ?_ ?_)
      all_goals (rw [ls]; (repeat' first | exact trivial | exact rfl | refine And.intro ?_ ?_))
  have g4 := of_decide_eq_true (show decide ((m : Int) > 1) = true from g)
  have e2 : IntKind.i64.wrap ((m : Int) - 2) = ((m - 2 : Nat) : Int) := by rw [wrapS _ ⟨by omega, by omega⟩]; omega
  have e2' : (IntKind.i64.wrap ((m : Int) - 2)).toNat = m - 2 := by rw [e2]; omega
  intro _; refine ⟨by rw [e2]; omega, ?_⟩
  intro _
  refine Or.inl ?_
  intro _
  refine call_pure [] (isL_ok (by' s (IntKind.i64.wrap ((m : Int) - 2)).toNat) (by_range _ _)) rfl rfl rfl ?_ ?_ ?_
  · (repeat' first | exact trivial | exact rfl | refine And.intro ?_ ?_)
  · (repeat' first | exact trivial | exact rfl | refine And.intro ?_ ?_)
  intro v hv _
  subst hv
  intro _; refine ⟨fun g => ?_, fun g => ?_⟩
  rotate_left
  · have g5 : ¬ isL (by' s (m - 2)) := by
      have := of_decide_eq_false (show decide (isL (by' s (IntKind.i64.wrap ((m : Int) - 2)).toNat)) = false from g)
      rwa [e2'] at this
    have hPL : ¬ PL bf bh kp s m := fun q => g5 ((PL126 g3).1 q).2.1
    intro _; refine ⟨by kernel_rfl, ?_⟩
    intro _; refine ⟨fun g => ?_, fun g => ?_⟩
    · have hB := of_decide_eq_true (show decide (BG s (m - 1)) = true from g)
      intro _; refine ⟨by rw [e1]; omega, ?_⟩
      intro _
      refine call_pure [] (follow_ok (BF s (m - 1)) (by' s (IntKind.i64.wrap ((m : Int) - 1)).toNat) (by_range _ _) (by omega)) rfl rfl rfl ?_ ?_ ?_
      · (repeat' first | exact trivial | exact rfl | refine And.intro ?_ ?_)
      · (repeat' first | exact trivial | exact rfl | refine And.intro ?_ ?_)
      intro v hv _
      subst hv
      rw [if_neg (fun q => hPL q.2), List.append_nil] at ls
      refine ⟨⟨m + 1, by omega, by omega⟩, by simp only []; omega, th [] 10, rfl, rfl, rfl, rfl, rfl, rfl, ?_, ?_⟩
      · (repeat' first | exact trivial | exact rfl | refine And.intro ?_ ?_)
        · exact (wrap_nat m (by omega)).symm
        · exact (decide_eq_true (BG_of m hB))
        · exact eBF
      · (repeat' first | exact trivial | exact rfl | refine And.intro ?_ ?_)
        all_goals (rw [ls]; (repeat' first | exact trivial | exact rfl | refine And.intro ?_ ?_))
    have hB := of_decide_eq_false (show decide (BG s (m - 1)) = false from g)
    have hBt := BG_no m hB h1 e1'
    intro _; refine ⟨by rw [e1]; omega, ?_⟩
    intro _; refine ⟨by rw [e1]; omega, ?_⟩
    intro _
    refine call_pure [] (follow_ok (BF s (m - 1)) (by' s (IntKind.i64.wrap ((m : Int) - 1)).toNat) (by_range _ _) (by omega)) rfl rfl rfl ?_ ?_ ?_
    · (repeat' first | exact trivial | exact rfl | refine And.intro ?_ ?_)
    · (repeat' first | exact trivial | exact rfl | refine And.intro ?_ ?_)
    intro v hv _
    subst hv
    rw [if_neg (fun q => hPL q.2), List.append_nil] at ls
    refine ⟨⟨m + 1, by omega, by omega⟩, by simp only []; omega, th [] 10, rfl, rfl, rfl, rfl, rfl, rfl, ?_, ?_⟩
    · (repeat' first | exact trivial | exact rfl | refine And.intro ?_ ?_)
      · exact (wrap_nat m (by omega)).symm
      · exact hBt
      · exact eBF
    · (repeat' first | exact trivial | exact rfl | refine And.intro ?_ ?_)
      all_goals (rw [ls]; (repeat' first | exact trivial | exact rfl | refine And.intro ?_ ?_))
  have g5 : isL (by' s (m - 2)) := by
    have := of_decide_eq_true (show decide (isL (by' s (IntKind.i64.wrap ((m : Int) - 2)).toNat)) = true from g)
    rwa [e2'] at this
  intro _; refine ⟨fun g => ?_, fun g => ?_⟩
  rotate_left
  · have g6 := of_decide_eq_false (show decide (BF s (m - 1) ≥ bf) = false from g)
    have hPL : ¬ PL bf bh kp s m := fun q => by have := ((PL126 g3).1 q).2.2.1; omega
    intro _; refine ⟨by kernel_rfl, ?_⟩
    intro _; refine ⟨fun g => ?_, fun g => ?_⟩
    · have hB := of_decide_eq_true (show decide (BG s (m - 1)) = true from g)
      intro _; refine ⟨by rw [e1]; omega, ?_⟩
      intro _
      refine call_pure [] (follow_ok (BF s (m - 1)) (by' s (IntKind.i64.wrap ((m : Int) - 1)).toNat) (by_range _ _) (by omega)) rfl rfl rfl ?_ ?_ ?_
      · (repeat' first | exact trivial | exact rfl | refine And.intro ?_ ?_)
      · (repeat' first | exact trivial | exact rfl | refine And.intro ?_ ?_)
      intro v hv _
      subst hv
      rw [if_neg (fun q => hPL q.2), List.append_nil] at ls
      refine ⟨⟨m + 1, by omega, by omega⟩, by simp only []; omega, th [] 10, rfl, rfl, rfl, rfl, rfl, rfl, ?_, ?_⟩
      · (repeat' first | exact trivial | exact rfl | refine And.intro ?_ ?_)
        · exact (wrap_nat m (by omega)).symm
        · exact (decide_eq_true (BG_of m hB))
        · exact eBF
      · (repeat' first | exact trivial | exact rfl | refine And.intro ?_ ?_)
        all_goals (rw [ls]; (repeat' first | exact trivial | exact rfl | refine And.intro ?_ ?_))
    have hB := of_decide_eq_false (show decide (BG s (m - 1)) = false from g)
    have hBt := BG_no m hB h1 e1'
    intro _; refine ⟨by rw [e1]; omega, ?_⟩
    intro _; refine ⟨by rw [e1]; omega, ?_⟩
    intro _
    refine call_pure [] (follow_ok (BF s (m - 1)) (by' s (IntKind.i64.wrap ((m : Int) - 1)).toNat) (by_range _ _) (by omega)) rfl rfl rfl ?_ ?_ ?_
    · (repeat' first | exact trivial | exact rfl | refine And.intro ?_ ?_)
    · (repeat' first | exact trivial | exact rfl | refine And.intro ?_ ?_)
    intro v hv _
    subst hv
    rw [if_neg (fun q => hPL q.2), List.append_nil] at ls
    refine ⟨⟨m + 1, by omega, by omega⟩, by simp only []; omega, th [] 10, rfl, rfl, rfl, rfl, rfl, rfl, ?_, ?_⟩
    · (repeat' first | exact trivial | exact rfl | refine And.intro ?_ ?_)
      · exact (wrap_nat m (by omega)).symm
      · exact hBt
      · exact eBF
    · (repeat' first | exact trivial | exact rfl | refine And.intro ?_ ?_)
      all_goals (rw [ls]; (repeat' first | exact trivial | exact rfl | refine And.intro ?_ ?_))
  have g6 := of_decide_eq_true (show decide (BF s (m - 1) ≥ bf) = true from g)
  have eg : (mk (s.length + 1) (FB s)).getD (m : Int).toNat 0 = FB s m := by rw [Int.toNat_natCast, mk_get _ (by omega)]
  intro _; refine ⟨show 0 ≤ (m : Int) ∧ (m : Int) < ((s.length + 1 : Nat) : Int) by omega, ?_⟩
  intro _; refine ⟨show (m : Int).toNat < (mk (s.length + 1) (FB s)).length by rw [hFL]; omega, ?_⟩
  intro _; refine ⟨fun g => ?_, fun g => ?_⟩
  rotate_left
  · have g7 := of_decide_eq_false (show decide ((mk (s.length + 1) (FB s)).getD (m : Int).toNat 0 ≥ bh) = false from g)
    rw [eg] at g7
    have hPL : ¬ PL bf bh kp s m := fun q => by have := ((PL126 g3).1 q).2.2.2.1; omega
    intro _; refine ⟨by kernel_rfl, ?_⟩
    intro _; refine ⟨fun g => ?_, fun g => ?_⟩
    · have hB := of_decide_eq_true (show decide (BG s (m - 1)) = true from g)
      intro _; refine ⟨by rw [e1]; omega, ?_⟩
      intro _
      refine call_pure [] (follow_ok (BF s (m - 1)) (by' s (IntKind.i64.wrap ((m : Int) - 1)).toNat) (by_range _ _) (by omega)) rfl rfl rfl ?_ ?_ ?_
      · (repeat' first | exact trivial | exact rfl | refine And.intro ?_ ?_)
      · (repeat' first | exact trivial | exact rfl | refine And.intro ?_ ?_)
      intro v hv _
      subst hv
      rw [if_neg (fun q => hPL q.2), List.append_nil] at ls
      refine ⟨⟨m + 1, by omega, by omega⟩, by simp only []; omega, th [] 10, rfl, rfl, rfl, rfl, rfl, rfl, ?_, ?_⟩
      · (repeat' first | exact trivial | exact rfl | refine And.intro ?_ ?_)
        · exact (wrap_nat m (by omega)).symm
        · exact (decide_eq_true (BG_of m hB))
        · exact eBF
      · (repeat' first | exact trivial | exact rfl | refine And.intro ?_ ?_)
        all_goals (rw [ls]; (repeat' first | exact trivial | exact rfl | refine And.intro ?_ ?_))
    have hB := of_decide_eq_false (show decide (BG s (m - 1)) = false from g)
    have hBt := BG_no m hB h1 e1'
    intro _; refine ⟨by rw [e1]; omega, ?_⟩
    intro _; refine ⟨by rw [e1]; omega, ?_⟩
    intro _
    refine call_pure [] (follow_ok (BF s (m - 1)) (by' s (IntKind.i64.wrap ((m : Int) - 1)).toNat) (by_range _ _) (by omega)) rfl rfl rfl ?_ ?_ ?_
    · (repeat' first | exact trivial | exact rfl | refine And.intro ?_ ?_)
    · (repeat' first | exact trivial | exact rfl | refine And.intro ?_ ?_)
    intro v hv _
    subst hv
    rw [if_neg (fun q => hPL q.2), List.append_nil] at ls
    refine ⟨⟨m + 1, by omega, by omega⟩, by simp only []; omega, th [] 10, rfl, rfl, rfl, rfl, rfl, rfl, ?_, ?_⟩
    · (repeat' first | exact trivial | exact rfl | refine And.intro ?_ ?_)
      · exact (wrap_nat m (by omega)).symm
      · exact hBt
      · exact eBF
    · (repeat' first | exact trivial | exact rfl | refine And.intro ?_ ?_)
      all_goals (rw [ls]; (repeat' first | exact trivial | exact rfl | refine And.intro ?_ ?_))
  have g7 := of_decide_eq_true (show decide ((mk (s.length + 1) (FB s)).getD (m : Int).toNat 0 ≥ bh) = true from g)
  rw [eg] at g7
  have hbh := hVB.2.1.1
  have eD : (s.drop (m : Int).toNat).take ((s.length : Int).toNat - (m : Int).toNat) = s.drop m := by
    rw [Int.toNat_natCast, Int.toNat_natCast]; exact List.take_of_length_le (by simp)
  have eY : flr ((s.drop (m : Int).toNat).take ((s.length : Int).toNat - (m : Int).toNat)) = fy s m := by
    rw [eD]; exact flr_fy _ m (Nat.le_refl _) (by omega)
  have eK : (((mfindS (SM kp kp.length) ([by' s (IntKind.i64.wrap ((m : Int) - 2)).toNat, flr ((s.drop (m : Int).toNat).take ((s.length : Int).toNat - (m : Int).toNat))].map fun n : Int => UInt8.ofNat n.toNat)).getD [.b false]).getD 0 (.n 0)).bool = true ↔ inK kp (by' s (m - 2)) (fy s m) := by
    rw [SM_in, inS_inK hVB (by_range _ _) (flr_bd _), eY, e2']
  intro _; refine ⟨by rw [e2]; omega, ?_⟩
  intro _; refine ⟨show 0 ≤ (m : Int) ∧ (m : Int) ≤ (s.length : Int) ∧ (s.length : Int) ≤ (s.length : Int) by omega, ?_⟩
  intro _
  refine Or.inl ?_
  intro _
  refine call_pure [] (first_ok ((s.drop (m : Int).toNat).take ((s.length : Int).toNat - (m : Int).toNat)) (by rw [eD]; simp; omega)) rfl rfl rfl ?_ ?_ ?_
  · (repeat' first | exact trivial | exact rfl | refine And.intro ?_ ?_)
  · (repeat' first | exact trivial | exact rfl | refine And.intro ?_ ?_)
  intro v hv _
  subst hv
  intro _; refine ⟨rfl, ?_⟩
  intro _; refine ⟨by kernel_rfl, ?_⟩
  intro _; refine ⟨fun g => ?_, fun g => ?_⟩
  · have hB := of_decide_eq_true (show decide (BG s (m - 1)) = true from g)
    intro _; refine ⟨by rw [e1]; omega, ?_⟩
    intro _
    refine call_pure [] (follow_ok (BF s (m - 1)) (by' s (IntKind.i64.wrap ((m : Int) - 1)).toNat) (by_range _ _) (by omega)) rfl rfl rfl ?_ ?_ ?_
    · (repeat' first | exact trivial | exact rfl | refine And.intro ?_ ?_)
    · (repeat' first | exact trivial | exact rfl | refine And.intro ?_ ?_)
    intro v hv _
    subst hv
    intro _; refine ⟨fun g => ?_, fun g => ?_⟩
    · have hPL : PL bf bh kp s m := (PL126 g3).2 ⟨by omega, g5, g6, g7, fun q => by have h := show (!(((mfindS (SM kp kp.length) ([by' s (IntKind.i64.wrap ((m : Int) - 2)).toNat, flr ((s.drop (m : Int).toNat).take ((s.length : Int).toNat - (m : Int).toNat))].map fun n : Int => UInt8.ofNat n.toNat)).getD [.b false]).getD 0 (.n 0)).bool) = true from g; rw [Bool.not_eq_true', Bool.eq_false_iff] at h; exact h (eK.2 q)⟩
      rw [if_pos ⟨h1, hPL⟩] at ls
      intro _
      refine yield_ok tt_ok ?_
      intro _; refine ⟨rfl, ?_⟩
      intro _; refine ⟨fun g3 => by simp at g3, fun _ => ?_⟩
      refine ⟨⟨rfl, show (lst bf bh kp s m).length + 1 ≤ 4611686018427387904 by omega, show ((lst bf bh kp s m).length + 1) * 16 ≤ 140737488355328 by omega⟩, ?_⟩
      intro _
      refine ⟨⟨m + 1, by omega, by omega⟩, by simp only []; omega, th [(9, some 14)] 10, rfl, rfl, rfl, rfl, rfl, rfl, ?_, ?_⟩
      · (repeat' first | exact trivial | exact rfl | refine And.intro ?_ ?_)
        · exact (wrap_nat m (by omega)).symm
        · exact (decide_eq_true (BG_of m hB))
        · exact eBF
      · (repeat' first | exact trivial | exact rfl | refine And.intro ?_ ?_)
        · rw [ls, List.length_append]; (repeat' first | exact trivial | exact rfl | refine And.intro ?_ ?_)
        · rw [ls, hHY]; (repeat' first | exact trivial | exact rfl | refine And.intro ?_ ?_)
    have hPL : ¬ PL bf bh kp s m := fun q => by have h := show (!(((mfindS (SM kp kp.length) ([by' s (IntKind.i64.wrap ((m : Int) - 2)).toNat, flr ((s.drop (m : Int).toNat).take ((s.length : Int).toNat - (m : Int).toNat))].map fun n : Int => UInt8.ofNat n.toNat)).getD [.b false]).getD 0 (.n 0)).bool) = false from g; rw [Bool.not_eq_false'] at h; exact ((PL126 g3).1 q).2.2.2.2 (eK.1 h)
    rw [if_neg (fun q => hPL q.2), List.append_nil] at ls
    refine ⟨⟨m + 1, by omega, by omega⟩, by simp only []; omega, th [] 10, rfl, rfl, rfl, rfl, rfl, rfl, ?_, ?_⟩
    · (repeat' first | exact trivial | exact rfl | refine And.intro ?_ ?_)
      · exact (wrap_nat m (by omega)).symm
      · exact (decide_eq_true (BG_of m hB))
      · exact eBF
    · (repeat' first | exact trivial | exact rfl | refine And.intro ?_ ?_)
      all_goals (rw [ls]; (repeat' first | exact trivial | exact rfl | refine And.intro ?_ ?_))
  have hB := of_decide_eq_false (show decide (BG s (m - 1)) = false from g)
  have hBt := BG_no m hB h1 e1'
  intro _; refine ⟨by rw [e1]; omega, ?_⟩
  intro _; refine ⟨by rw [e1]; omega, ?_⟩
  intro _
  refine call_pure [] (follow_ok (BF s (m - 1)) (by' s (IntKind.i64.wrap ((m : Int) - 1)).toNat) (by_range _ _) (by omega)) rfl rfl rfl ?_ ?_ ?_
  · (repeat' first | exact trivial | exact rfl | refine And.intro ?_ ?_)
  · (repeat' first | exact trivial | exact rfl | refine And.intro ?_ ?_)
  intro v hv _
  subst hv
  intro _; refine ⟨fun g => ?_, fun g => ?_⟩
  · have hPL : PL bf bh kp s m := (PL126 g3).2 ⟨by omega, g5, g6, g7, fun q => by have h := show (!(((mfindS (SM kp kp.length) ([by' s (IntKind.i64.wrap ((m : Int) - 2)).toNat, flr ((s.drop (m : Int).toNat).take ((s.length : Int).toNat - (m : Int).toNat))].map fun n : Int => UInt8.ofNat n.toNat)).getD [.b false]).getD 0 (.n 0)).bool) = true from g; rw [Bool.not_eq_true', Bool.eq_false_iff] at h; exact h (eK.2 q)⟩
    rw [if_pos ⟨h1, hPL⟩] at ls
    intro _
    refine yield_ok tt_ok ?_
    intro _; refine ⟨rfl, ?_⟩
    intro _; refine ⟨fun g3 => by simp at g3, fun _ => ?_⟩
    refine ⟨⟨rfl, show (lst bf bh kp s m).length + 1 ≤ 4611686018427387904 by omega, show ((lst bf bh kp s m).length + 1) * 16 ≤ 140737488355328 by omega⟩, ?_⟩
    intro _
    refine ⟨⟨m + 1, by omega, by omega⟩, by simp only []; omega, th [(9, some 14)] 10, rfl, rfl, rfl, rfl, rfl, rfl, ?_, ?_⟩
    · (repeat' first | exact trivial | exact rfl | refine And.intro ?_ ?_)
      · exact (wrap_nat m (by omega)).symm
      · exact hBt
      · exact eBF
    · (repeat' first | exact trivial | exact rfl | refine And.intro ?_ ?_)
      · rw [ls, List.length_append]; (repeat' first | exact trivial | exact rfl | refine And.intro ?_ ?_)
      · rw [ls, hHY]; (repeat' first | exact trivial | exact rfl | refine And.intro ?_ ?_)
  have hPL : ¬ PL bf bh kp s m := fun q => by have h := show (!(((mfindS (SM kp kp.length) ([by' s (IntKind.i64.wrap ((m : Int) - 2)).toNat, flr ((s.drop (m : Int).toNat).take ((s.length : Int).toNat - (m : Int).toNat))].map fun n : Int => UInt8.ofNat n.toNat)).getD [.b false]).getD 0 (.n 0)).bool) = false from g; rw [Bool.not_eq_false'] at h; exact ((PL126 g3).1 q).2.2.2.2 (eK.1 h)
  rw [if_neg (fun q => hPL q.2), List.append_nil] at ls
  refine ⟨⟨m + 1, by omega, by omega⟩, by simp only []; omega, th [] 10, rfl, rfl, rfl, rfl, rfl, rfl, ?_, ?_⟩
  · (repeat' first | exact trivial | exact rfl | refine And.intro ?_ ?_)
    · exact (wrap_nat m (by omega)).symm
    · exact hBt
    · exact eBF
  · (repeat' first | exact trivial | exact rfl | refine And.intro ?_ ?_)
    all_goals (rw [ls]; (repeat' first | exact trivial | exact rfl | refine And.intro ?_ ?_))
set_option maxRecDepth 100000
def cI (d : List D) (j : Nat) : Int := (d.getD j (.n 0)).int
def cB (d : List D) (j : Nat) : Bool := (d.getD j (.n 0)).bool
theorem ne0 : ¬ ((0 : Int) != 0) = true := by decide
def US (bf bh : Int) (kp : LD) (s : List UInt8) : Prop := (s.length : Int) ≤ 300 ∧ VB bf bh kp ∧ VA s
instance decUS (bf bh : Int) (kp : LD) (s : List UInt8) : Decidable (US bf bh kp s) := inferInstanceAs (Decidable (_ ∧ _))
theorem usable_ok (bf bh : Int) (kp : LD) (s : List UInt8) (hl : s.length ≤ 9223372036854775807) : SemF Try.prog 18 [.agg [.int .i64 bf, .int .i64 bh, .slc 0 1 0 kp.length], .str s] ⟨1, 1, [(0, .arr [.str] .rd (.recs kp))]⟩ (fun v _ => v = .test (decide (US bf bh kp s)) ∧ nameless v = true) := by
  refine SemF.test ?_
  refine enter tt_ok Try.func18 (nt := 16) (cd := body Try.f18) rfl rfl rfl rfl ?_
  intro _; refine ⟨fun g => ?_, fun g => ?_⟩
  rotate_left
  · have g := of_decide_eq_false (show decide ((s.length : Int) ≤ 300) = false from g)
    intro _
    exact ⟨false, .inl rfl, by rw [decide_eq_false (fun h : US bf bh kp s => g h.1)], rfl⟩
  have g1 := of_decide_eq_true (show decide ((s.length : Int) ≤ 300) = true from g)
  intro _
  refine call_pure [(0, some 0)] (rValid_ok bf bh kp) rfl rfl rfl ?_ ?_ ?_
  · (repeat' first | exact trivial | exact rfl | refine And.intro ?_ ?_)
  · (repeat' first | exact trivial | exact rfl | refine And.intro ?_ ?_)
  intro v hv _
  subst hv
  intro _; refine ⟨fun g => ?_, fun g => ?_⟩
  rotate_left
  · have g := of_decide_eq_false (show decide (VB bf bh kp) = false from g)
    intro _
    exact ⟨false, .inl rfl, by rw [decide_eq_false (fun h : US bf bh kp s => g h.2.1)], rfl⟩
  have g2 := of_decide_eq_true (show decide (VB bf bh kp) = true from g)
  intro _
  refine call_pure [] (rvalid_ok s hl) rfl rfl rfl ?_ ?_ ?_
  · (repeat' first | exact trivial | exact rfl | refine And.intro ?_ ?_)
  · (repeat' first | exact trivial | exact rfl | refine And.intro ?_ ?_)
  intro v hv _
  subst hv
  intro _
  refine ⟨decide (VA s), .inr rfl, ?_, rfl⟩
  congr 1
  exact decide_eq_decide.2 ⟨fun h => ⟨g1, g2, h⟩, fun h => h.2.2⟩
/-! lists of places -/
def SameR (x y : LD) : Prop := x.length = y.length ∧ ∀ i, i < x.length → cI (x.getD i []) 0 = cI (y.getD i []) 0 ∧ cB (x.getD i []) 1 = cB (y.getD i []) 1
instance decSameR (x y : LD) : Decidable (SameR x y) := inferInstanceAs (Decidable (_ ∧ ∀ i, i < x.length → _))
theorem SameR_refl (x : LD) : SameR x x := ⟨rfl, fun _ _ => ⟨rfl, rfl⟩⟩
theorem same_ok (x y : LD) (hx : x.length ≤ 1000000) (hy : y.length ≤ 1000000) : SemF Try.prog 14 [.slc 0 2 0 x.length, .slc 1 2 0 y.length] ⟨2, 2, [(0, .arr [.int .i64, .bool] .rd (.recs x)), (1, .arr [.int .i64, .bool] .rd (.recs y))]⟩ (fun v _ => v = .test (decide (SameR x y)) ∧ nameless v = true) := by
  refine SemF.test ?_
  refine enter tt_ok Try.func14 (nt := 26) (cd := body Try.f14) rfl rfl rfl rfl ?_
  intro _; refine ⟨fun g => ?_, fun g => ?_⟩
  · have g : ((x.length : Int) != (y.length : Int)) = true := g
    rw [bne_iff_ne] at g
    intro _
    exact ⟨false, .inl rfl, by rw [decide_eq_false (fun h : SameR x y => g (by rw [h.1]))], rfl⟩
  have g0 : ((x.length : Int) != (y.length : Int)) = false := g
  rw [bne_eq_false_iff_eq] at g0
  intro _
  refine loop2 tt_ok [5] [] 2 (fun i : { i : Nat // i ≤ x.length ∧ ∀ j, j < i → cI (x.getD j []) 0 = cI (y.getD j []) 0 ∧ cB (x.getD j []) 1 = cB (y.getD j []) 1 } => [(5, .int .i64 (i.1 : Nat))]) (fun _ => []) (fun i => x.length - i.1) ⟨0, by omega, fun j hj => by omega⟩ ?_
  intro _
  refine ⟨⟨th [] 2, rfl, rfl, rfl, rfl, rfl, rfl, ?_, ?_⟩, ?_⟩
  · (repeat' first | exact trivial | exact rfl | refine And.intro ?_ ?_)
  · (repeat' first | exact trivial | exact rfl | refine And.intro ?_ ?_)
  intro ⟨i, h1, h2⟩
  intro _; refine ⟨fun g => ?_, fun g => ?_⟩
  rotate_left
  · have g := of_decide_eq_false (show decide ((i : Int) < (x.length : Int)) = false from g)
    intro _
    exact ⟨true, .inl rfl, by rw [decide_eq_true (show SameR x y from ⟨by omega, fun j hj => h2 j (by omega)⟩)], rfl⟩
  have g := of_decide_eq_true (show decide ((i : Int) < (x.length : Int)) = true from g)
  have ei : 0 + (i : Int).toNat = i := by omega
  intro _; refine ⟨show 0 ≤ (i : Int) ∧ (i : Int) < (x.length : Int) by omega, ?_⟩
  intro _; refine ⟨show 0 + (i : Int).toNat < x.length by omega, ?_⟩
  intro _; refine ⟨show 0 ≤ (i : Int) ∧ (i : Int) < (y.length : Int) by omega, ?_⟩
  intro _; refine ⟨show 0 + (i : Int).toNat < y.length by omega, ?_⟩
  intro _; refine ⟨by kernel_rfl, ?_⟩
  intro _; refine ⟨fun g => ?_, fun g => ?_⟩
  · have g2 : (!((cI (x.getD (0 + (i : Int).toNat) []) 0 == cI (y.getD (0 + (i : Int).toNat) []) 0) && (cB (x.getD (0 + (i : Int).toNat) []) 1 == cB (y.getD (0 + (i : Int).toNat) []) 1))) = true := g
    rw [ei, Bool.not_eq_true'] at g2
    intro _
    refine ⟨false, .inl rfl, ?_, rfl⟩
    rw [decide_eq_false (fun h : SameR x y => ?_)]
    obtain ⟨p, q⟩ := h.2 i (by omega)
    rw [p, q] at g2
    simp at g2
  have g2 : (!((cI (x.getD (0 + (i : Int).toNat) []) 0 == cI (y.getD (0 + (i : Int).toNat) []) 0) && (cB (x.getD (0 + (i : Int).toNat) []) 1 == cB (y.getD (0 + (i : Int).toNat) []) 1))) = false := g
  rw [ei, Bool.not_eq_false', Bool.and_eq_true] at g2
  refine ⟨⟨i + 1, by omega, step_all h2 ⟨eq_of_beq g2.1, eq_of_beq g2.2⟩⟩, by simp only []; omega, th [] 2, rfl, rfl, rfl, rfl, rfl, rfl, ?_, ?_⟩
  · (repeat' first | exact trivial | exact rfl | refine And.intro ?_ ?_)
    exact (wrap_nat i (by omega)).symm
  · (repeat' first | exact trivial | exact rfl | refine And.intro ?_ ?_)
end Go.Proofs.Ytbjidlekfoabaaa.brk
