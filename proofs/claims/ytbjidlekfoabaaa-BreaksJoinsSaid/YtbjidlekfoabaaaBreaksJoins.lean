/-
  BreaksJoins: whatever the arguments, the law returns true, and its arguments read as before. No conditions.
-/
import Derived.Test.YtbjidlekfoabaaaRows
import Derived.Test.YtbjidlekfoabaaaVwOpen2
import Derived.Test.YtbjidlekfoabaaaVwRules6
import Derived.Test.YtbjidlekfoabaaaVmSym
import Derived.WalkKit
import Derived.ProofKit
import Derived.OpenShut
import Derived.Carry
import Derived.SizedLaws
import Derived.ChangeMaps5
import Derived.Laws.RangeAny
namespace Go.Proofs.Ytbjidlekfoabaaa.breaksJoins
open Go.ChangeShapes Go.WideShapes Go.ChangeAt Go.RowKit
open Go.Vm (Facts Val Sound)
open Go.Vm2
set_option linter.unusedVariables false
set_option linter.unusedSectionVars false

theorem own : ownKnob Try.prog.godebug = none := by kernel_rfl
theorem laidOut : laidOutB Try.prog = true := by kernel_rfl
def ts : List Nat := [24, 22, 9, 4, 27, 26, 37, 3, 5, 38, 49, 53, 21, 59]
def tt : Go.Vm2.TT := [
  (24, ⟨(.struct [⟨0, 1, false⟩, ⟨1, 1, false⟩, ⟨2, 1, false⟩]), true, 3, .agg [.int .i64 (0), .int .i64 (0), .nils], false⟩),
  (22, ⟨(.slice 9 1 16 [.str]), false, 1, .nils, true⟩),
  (9, ⟨.string, false, 1, .str [], true⟩),
  (4, ⟨.bool, false, 1, .bool false, true⟩),
  (27, ⟨(.int .i64), false, 1, .int .i64 (0), true⟩),
  (26, ⟨(.slice 37 2 16 [.int .i64, .bool]), false, 1, .nils, true⟩),
  (37, ⟨(.struct [⟨0, 1, false⟩, ⟨1, 1, false⟩]), true, 2, .agg [.int .i64 (0), .bool false], true⟩),
  (3, ⟨(.int .i64), false, 1, .int .i64 (0), true⟩),
  (5, ⟨(.int .u8), false, 1, .int .u8 (0), true⟩),
  (38, ⟨(.slice 5 1 1 [.int .u8]), false, 1, .nils, true⟩),
  (49, ⟨(.smap 4), false, 1, .nilm, true⟩),
  (53, ⟨.other, false, 1, .nilf, true⟩),
  (21, ⟨(.int .i32), false, 1, .int .i32 (0), true⟩),
  (59, ⟨(.slice 3 1 8 [.int .i64]), false, 1, .nils, true⟩)]
theorem tt_mk : mkTT Try.prog ts = some tt := by kernel_rfl
theorem head (w : World) : Calls Try.prog 9 #[] w fun e w' => e = .returned (.bool true) ∧ Below w.heap.size w w' :=
  Go.Vm.head_run (by kernel_rfl) (by kernel_rfl) (n := 1000000) (by kernel_rfl) w
instance facts : Facts := ⟨[], [9], false⟩
instance val : Val := ⟨fun _ => 0⟩
instance sound : Sound := ⟨fun f hf => (List.not_mem_nil hf).elim⟩
theorem tt_ok : TTok Try.prog tt := ttok_mk tt_mk
def body (f : Func) : Code := match f.body with | some c => c | none => .skip
set_option maxRecDepth 100000
theorem wrap_nat (k : Nat) (h : k < 9223372036854775807) : IntKind.i64.wrap ((k : Int) + 1) = ((k + 1 : Nat) : Int) := by
  rw [IntKind.wrap_i64]; omega
theorem wrapS (n : Int) (h : -9000000000000000000 ≤ n ∧ n ≤ 9000000000000000000) : IntKind.i64.wrap n = n := by rw [IntKind.wrap_i64]; omega
/-! classes of bytes -/
def cl (n : Int) : Int := if 97 ≤ n ∧ n ≤ 122 then 1 else if 65 ≤ n ∧ n ≤ 90 then 2 else if 48 ≤ n ∧ n ≤ 57 then 3 else if n = 32 then 4 else if n = 126 then 6 else if 32 < n ∧ n < 126 then 5 else 0
theorem cl_high {n : Int} (h : 128 ≤ n) : cl n = 0 := by unfold cl; repeat' split
                                                         all_goals omega
theorem rclass_ok (n : Int) : SemF Try.prog 38 [.int .u8 n] ⟨0, 0, []⟩ (fun v _ => v = .int .i64 (cl n) ∧ nameless v = true) := by
  refine enter tt_ok Try.func38 (nt := 31) (cd := body Try.f38) rfl rfl rfl rfl ?_
  intro _; refine ⟨fun g => ?_, fun g => ?_⟩
  · have g := of_decide_eq_true (show decide (n ≥ 97) = true from g)
    intro _; refine ⟨fun g => ?_, fun g => ?_⟩
    · have g := of_decide_eq_true (show decide (n ≤ 122) = true from g)
      intro _
      exact ⟨by rw [show cl n = 1 by (unfold cl; repeat' split) <;> omega], rfl⟩
    · have g := of_decide_eq_false (show decide (n ≤ 122) = false from g)
      intro _; refine ⟨fun g => ?_, fun g => ?_⟩
      · have g := of_decide_eq_true (show decide (n ≥ 65) = true from g)
        intro _; refine ⟨fun g => ?_, fun g => ?_⟩
        · have g := of_decide_eq_true (show decide (n ≤ 90) = true from g)
          intro _
          exact ⟨by rw [show cl n = 2 by (unfold cl; repeat' split) <;> omega], rfl⟩
        · have g := of_decide_eq_false (show decide (n ≤ 90) = false from g)
          intro _; refine ⟨fun g => ?_, fun g => ?_⟩
          · have g := of_decide_eq_true (show decide (n ≥ 48) = true from g)
            intro _; refine ⟨fun g => ?_, fun g => ?_⟩
            · have g := of_decide_eq_true (show decide (n ≤ 57) = true from g)
              intro _
              exact ⟨by rw [show cl n = 3 by (unfold cl; repeat' split) <;> omega], rfl⟩
            · have g := of_decide_eq_false (show decide (n ≤ 57) = false from g)
              intro _; refine ⟨fun g => ?_, fun g => ?_⟩
              · have g : (n == 32) = true := g
                have g : n = 32 := by simpa using g
                intro _
                exact ⟨by rw [show cl n = 4 by (unfold cl; repeat' split) <;> omega], rfl⟩
              · have g : (n == 32) = false := g
                have g : ¬ n = 32 := by simpa using g
                intro _; refine ⟨fun g => ?_, fun g => ?_⟩
                · have g : (n == 126) = true := g
                  have g : n = 126 := by simpa using g
                  intro _
                  exact ⟨by rw [show cl n = 6 by (unfold cl; repeat' split) <;> omega], rfl⟩
                · have g : (n == 126) = false := g
                  have g : ¬ n = 126 := by simpa using g
                  intro _; refine ⟨fun g => ?_, fun g => ?_⟩
                  · have g := of_decide_eq_true (show decide (n > 32) = true from g)
                    intro _; refine ⟨fun g => ?_, fun g => ?_⟩
                    · have g := of_decide_eq_true (show decide (n < 126) = true from g)
                      intro _
                      exact ⟨by rw [show cl n = 5 by (unfold cl; repeat' split) <;> omega], rfl⟩
                    · have g := of_decide_eq_false (show decide (n < 126) = false from g)
                      intro _
                      exact ⟨by rw [show cl n = 0 by (unfold cl; repeat' split) <;> omega], rfl⟩
                  · have g := of_decide_eq_false (show decide (n > 32) = false from g)
                    intro _
                    exact ⟨by rw [show cl n = 0 by (unfold cl; repeat' split) <;> omega], rfl⟩
          · have g := of_decide_eq_false (show decide (n ≥ 48) = false from g)
            intro _; refine ⟨fun g => ?_, fun g => ?_⟩
            · have g : (n == 32) = true := g
              have g : n = 32 := by simpa using g
              intro _
              exact ⟨by rw [show cl n = 4 by (unfold cl; repeat' split) <;> omega], rfl⟩
            · have g : (n == 32) = false := g
              have g : ¬ n = 32 := by simpa using g
              intro _; refine ⟨fun g => ?_, fun g => ?_⟩
              · have g : (n == 126) = true := g
                have g : n = 126 := by simpa using g
                intro _
                exact ⟨by rw [show cl n = 6 by (unfold cl; repeat' split) <;> omega], rfl⟩
              · have g : (n == 126) = false := g
                have g : ¬ n = 126 := by simpa using g
                intro _; refine ⟨fun g => ?_, fun g => ?_⟩
                · have g := of_decide_eq_true (show decide (n > 32) = true from g)
                  intro _; refine ⟨fun g => ?_, fun g => ?_⟩
                  · have g := of_decide_eq_true (show decide (n < 126) = true from g)
                    intro _
                    exact ⟨by rw [show cl n = 5 by (unfold cl; repeat' split) <;> omega], rfl⟩
                  · have g := of_decide_eq_false (show decide (n < 126) = false from g)
                    intro _
                    exact ⟨by rw [show cl n = 0 by (unfold cl; repeat' split) <;> omega], rfl⟩
                · have g := of_decide_eq_false (show decide (n > 32) = false from g)
                  intro _
                  exact ⟨by rw [show cl n = 0 by (unfold cl; repeat' split) <;> omega], rfl⟩
      · have g := of_decide_eq_false (show decide (n ≥ 65) = false from g)
        intro _; refine ⟨fun g => ?_, fun g => ?_⟩
        · have g := of_decide_eq_true (show decide (n ≥ 48) = true from g)
          intro _; refine ⟨fun g => ?_, fun g => ?_⟩
          · have g := of_decide_eq_true (show decide (n ≤ 57) = true from g)
            intro _
            exact ⟨by rw [show cl n = 3 by (unfold cl; repeat' split) <;> omega], rfl⟩
          · have g := of_decide_eq_false (show decide (n ≤ 57) = false from g)
            intro _; refine ⟨fun g => ?_, fun g => ?_⟩
            · have g : (n == 32) = true := g
              have g : n = 32 := by simpa using g
              intro _
              exact ⟨by rw [show cl n = 4 by (unfold cl; repeat' split) <;> omega], rfl⟩
            · have g : (n == 32) = false := g
              have g : ¬ n = 32 := by simpa using g
              intro _; refine ⟨fun g => ?_, fun g => ?_⟩
              · have g : (n == 126) = true := g
                have g : n = 126 := by simpa using g
                intro _
                exact ⟨by rw [show cl n = 6 by (unfold cl; repeat' split) <;> omega], rfl⟩
              · have g : (n == 126) = false := g
                have g : ¬ n = 126 := by simpa using g
                intro _; refine ⟨fun g => ?_, fun g => ?_⟩
                · have g := of_decide_eq_true (show decide (n > 32) = true from g)
                  intro _; refine ⟨fun g => ?_, fun g => ?_⟩
                  · have g := of_decide_eq_true (show decide (n < 126) = true from g)
                    intro _
                    exact ⟨by rw [show cl n = 5 by (unfold cl; repeat' split) <;> omega], rfl⟩
                  · have g := of_decide_eq_false (show decide (n < 126) = false from g)
                    intro _
                    exact ⟨by rw [show cl n = 0 by (unfold cl; repeat' split) <;> omega], rfl⟩
                · have g := of_decide_eq_false (show decide (n > 32) = false from g)
                  intro _
                  exact ⟨by rw [show cl n = 0 by (unfold cl; repeat' split) <;> omega], rfl⟩
        · have g := of_decide_eq_false (show decide (n ≥ 48) = false from g)
          intro _; refine ⟨fun g => ?_, fun g => ?_⟩
          · have g : (n == 32) = true := g
            have g : n = 32 := by simpa using g
            intro _
            exact ⟨by rw [show cl n = 4 by (unfold cl; repeat' split) <;> omega], rfl⟩
          · have g : (n == 32) = false := g
            have g : ¬ n = 32 := by simpa using g
            intro _; refine ⟨fun g => ?_, fun g => ?_⟩
            · have g : (n == 126) = true := g
              have g : n = 126 := by simpa using g
              intro _
              exact ⟨by rw [show cl n = 6 by (unfold cl; repeat' split) <;> omega], rfl⟩
            · have g : (n == 126) = false := g
              have g : ¬ n = 126 := by simpa using g
              intro _; refine ⟨fun g => ?_, fun g => ?_⟩
              · have g := of_decide_eq_true (show decide (n > 32) = true from g)
                intro _; refine ⟨fun g => ?_, fun g => ?_⟩
                · have g := of_decide_eq_true (show decide (n < 126) = true from g)
                  intro _
                  exact ⟨by rw [show cl n = 5 by (unfold cl; repeat' split) <;> omega], rfl⟩
                · have g := of_decide_eq_false (show decide (n < 126) = false from g)
                  intro _
                  exact ⟨by rw [show cl n = 0 by (unfold cl; repeat' split) <;> omega], rfl⟩
              · have g := of_decide_eq_false (show decide (n > 32) = false from g)
                intro _
                exact ⟨by rw [show cl n = 0 by (unfold cl; repeat' split) <;> omega], rfl⟩
  · have g := of_decide_eq_false (show decide (n ≥ 97) = false from g)
    intro _; refine ⟨fun g => ?_, fun g => ?_⟩
    · have g := of_decide_eq_true (show decide (n ≥ 65) = true from g)
      intro _; refine ⟨fun g => ?_, fun g => ?_⟩
      · have g := of_decide_eq_true (show decide (n ≤ 90) = true from g)
        intro _
        exact ⟨by rw [show cl n = 2 by (unfold cl; repeat' split) <;> omega], rfl⟩
      · have g := of_decide_eq_false (show decide (n ≤ 90) = false from g)
        intro _; refine ⟨fun g => ?_, fun g => ?_⟩
        · have g := of_decide_eq_true (show decide (n ≥ 48) = true from g)
          intro _; refine ⟨fun g => ?_, fun g => ?_⟩
          · have g := of_decide_eq_true (show decide (n ≤ 57) = true from g)
            intro _
            exact ⟨by rw [show cl n = 3 by (unfold cl; repeat' split) <;> omega], rfl⟩
          · have g := of_decide_eq_false (show decide (n ≤ 57) = false from g)
            intro _; refine ⟨fun g => ?_, fun g => ?_⟩
            · have g : (n == 32) = true := g
              have g : n = 32 := by simpa using g
              intro _
              exact ⟨by rw [show cl n = 4 by (unfold cl; repeat' split) <;> omega], rfl⟩
            · have g : (n == 32) = false := g
              have g : ¬ n = 32 := by simpa using g
              intro _; refine ⟨fun g => ?_, fun g => ?_⟩
              · have g : (n == 126) = true := g
                have g : n = 126 := by simpa using g
                intro _
                exact ⟨by rw [show cl n = 6 by (unfold cl; repeat' split) <;> omega], rfl⟩
              · have g : (n == 126) = false := g
                have g : ¬ n = 126 := by simpa using g
                intro _; refine ⟨fun g => ?_, fun g => ?_⟩
                · have g := of_decide_eq_true (show decide (n > 32) = true from g)
                  intro _; refine ⟨fun g => ?_, fun g => ?_⟩
                  · have g := of_decide_eq_true (show decide (n < 126) = true from g)
                    intro _
                    exact ⟨by rw [show cl n = 5 by (unfold cl; repeat' split) <;> omega], rfl⟩
                  · have g := of_decide_eq_false (show decide (n < 126) = false from g)
                    intro _
                    exact ⟨by rw [show cl n = 0 by (unfold cl; repeat' split) <;> omega], rfl⟩
                · have g := of_decide_eq_false (show decide (n > 32) = false from g)
                  intro _
                  exact ⟨by rw [show cl n = 0 by (unfold cl; repeat' split) <;> omega], rfl⟩
        · have g := of_decide_eq_false (show decide (n ≥ 48) = false from g)
          intro _; refine ⟨fun g => ?_, fun g => ?_⟩
          · have g : (n == 32) = true := g
            have g : n = 32 := by simpa using g
            intro _
            exact ⟨by rw [show cl n = 4 by (unfold cl; repeat' split) <;> omega], rfl⟩
          · have g : (n == 32) = false := g
            have g : ¬ n = 32 := by simpa using g
            intro _; refine ⟨fun g => ?_, fun g => ?_⟩
            · have g : (n == 126) = true := g
              have g : n = 126 := by simpa using g
              intro _
              exact ⟨by rw [show cl n = 6 by (unfold cl; repeat' split) <;> omega], rfl⟩
            · have g : (n == 126) = false := g
              have g : ¬ n = 126 := by simpa using g
              intro _; refine ⟨fun g => ?_, fun g => ?_⟩
              · have g := of_decide_eq_true (show decide (n > 32) = true from g)
                intro _; refine ⟨fun g => ?_, fun g => ?_⟩
                · have g := of_decide_eq_true (show decide (n < 126) = true from g)
                  intro _
                  exact ⟨by rw [show cl n = 5 by (unfold cl; repeat' split) <;> omega], rfl⟩
                · have g := of_decide_eq_false (show decide (n < 126) = false from g)
                  intro _
                  exact ⟨by rw [show cl n = 0 by (unfold cl; repeat' split) <;> omega], rfl⟩
              · have g := of_decide_eq_false (show decide (n > 32) = false from g)
                intro _
                exact ⟨by rw [show cl n = 0 by (unfold cl; repeat' split) <;> omega], rfl⟩
    · have g := of_decide_eq_false (show decide (n ≥ 65) = false from g)
      intro _; refine ⟨fun g => ?_, fun g => ?_⟩
      · have g := of_decide_eq_true (show decide (n ≥ 48) = true from g)
        intro _; refine ⟨fun g => ?_, fun g => ?_⟩
        · have g := of_decide_eq_true (show decide (n ≤ 57) = true from g)
          intro _
          exact ⟨by rw [show cl n = 3 by (unfold cl; repeat' split) <;> omega], rfl⟩
        · have g := of_decide_eq_false (show decide (n ≤ 57) = false from g)
          intro _; refine ⟨fun g => ?_, fun g => ?_⟩
          · have g : (n == 32) = true := g
            have g : n = 32 := by simpa using g
            intro _
            exact ⟨by rw [show cl n = 4 by (unfold cl; repeat' split) <;> omega], rfl⟩
          · have g : (n == 32) = false := g
            have g : ¬ n = 32 := by simpa using g
            intro _; refine ⟨fun g => ?_, fun g => ?_⟩
            · have g : (n == 126) = true := g
              have g : n = 126 := by simpa using g
              intro _
              exact ⟨by rw [show cl n = 6 by (unfold cl; repeat' split) <;> omega], rfl⟩
            · have g : (n == 126) = false := g
              have g : ¬ n = 126 := by simpa using g
              intro _; refine ⟨fun g => ?_, fun g => ?_⟩
              · have g := of_decide_eq_true (show decide (n > 32) = true from g)
                intro _; refine ⟨fun g => ?_, fun g => ?_⟩
                · have g := of_decide_eq_true (show decide (n < 126) = true from g)
                  intro _
                  exact ⟨by rw [show cl n = 5 by (unfold cl; repeat' split) <;> omega], rfl⟩
                · have g := of_decide_eq_false (show decide (n < 126) = false from g)
                  intro _
                  exact ⟨by rw [show cl n = 0 by (unfold cl; repeat' split) <;> omega], rfl⟩
              · have g := of_decide_eq_false (show decide (n > 32) = false from g)
                intro _
                exact ⟨by rw [show cl n = 0 by (unfold cl; repeat' split) <;> omega], rfl⟩
      · have g := of_decide_eq_false (show decide (n ≥ 48) = false from g)
        intro _; refine ⟨fun g => ?_, fun g => ?_⟩
        · have g : (n == 32) = true := g
          have g : n = 32 := by simpa using g
          intro _
          exact ⟨by rw [show cl n = 4 by (unfold cl; repeat' split) <;> omega], rfl⟩
        · have g : (n == 32) = false := g
          have g : ¬ n = 32 := by simpa using g
          intro _; refine ⟨fun g => ?_, fun g => ?_⟩
          · have g : (n == 126) = true := g
            have g : n = 126 := by simpa using g
            intro _
            exact ⟨by rw [show cl n = 6 by (unfold cl; repeat' split) <;> omega], rfl⟩
          · have g : (n == 126) = false := g
            have g : ¬ n = 126 := by simpa using g
            intro _; refine ⟨fun g => ?_, fun g => ?_⟩
            · have g := of_decide_eq_true (show decide (n > 32) = true from g)
              intro _; refine ⟨fun g => ?_, fun g => ?_⟩
              · have g := of_decide_eq_true (show decide (n < 126) = true from g)
                intro _
                exact ⟨by rw [show cl n = 5 by (unfold cl; repeat' split) <;> omega], rfl⟩
              · have g := of_decide_eq_false (show decide (n < 126) = false from g)
                intro _
                exact ⟨by rw [show cl n = 0 by (unfold cl; repeat' split) <;> omega], rfl⟩
            · have g := of_decide_eq_false (show decide (n > 32) = false from g)
              intro _
              exact ⟨by rw [show cl n = 0 by (unfold cl; repeat' split) <;> omega], rfl⟩
theorem dig_test (n : Int) (h : H) (K : V → H → Prop) (hK : K (.test (decide (48 ≤ n ∧ n ≤ 57))) h) : SemF Try.prog 48 [.int .i32 n] h K := by
  refine SemF.test ?_
  refine enter tt_ok Try.func48 (nt := 9) (cd := body Try.f48) rfl rfl rfl rfl ?_
  intro _; refine ⟨fun g => ?_, fun g => ?_⟩
  · have g := of_decide_eq_true (show decide (n ≥ 48) = true from g)
    intro _
    refine ⟨_, .inr rfl, ?_⟩
    have : decide (48 ≤ n ∧ n ≤ 57) = decide (n ≤ 57) := by
      by_cases e : n ≤ 57
      · rw [decide_eq_true e, decide_eq_true (show 48 ≤ n ∧ n ≤ 57 from ⟨by omega, e⟩)]
      · rw [decide_eq_false e, decide_eq_false (fun m => e m.2)]
    rw [← this]; exact hK
  · have g := of_decide_eq_false (show decide (n ≥ 48) = false from g)
    intro _
    refine ⟨false, .inl rfl, ?_⟩
    have : decide (48 ≤ n ∧ n ≤ 57) = false := decide_eq_false (fun m => by have := m.1; omega)
    rw [← this]; exact hK
theorem cap_test (n : Int) (h : H) (K : V → H → Prop) (hK : K (.test (decide (65 ≤ n ∧ n ≤ 90))) h) : SemF Try.prog 49 [.int .i32 n] h K := by
  refine SemF.test ?_
  refine enter tt_ok Try.func49 (nt := 9) (cd := body Try.f49) rfl rfl rfl rfl ?_
  intro _; refine ⟨fun g => ?_, fun g => ?_⟩
  · have g := of_decide_eq_true (show decide (n ≥ 65) = true from g)
    intro _
    refine ⟨_, .inr rfl, ?_⟩
    have : decide (65 ≤ n ∧ n ≤ 90) = decide (n ≤ 90) := by
      by_cases e : n ≤ 90
      · rw [decide_eq_true e, decide_eq_true (show 65 ≤ n ∧ n ≤ 90 from ⟨by omega, e⟩)]
      · rw [decide_eq_false e, decide_eq_false (fun m => e m.2)]
    rw [← this]; exact hK
  · have g := of_decide_eq_false (show decide (n ≥ 65) = false from g)
    intro _
    refine ⟨false, .inl rfl, ?_⟩
    have : decide (65 ≤ n ∧ n ≤ 90) = false := decide_eq_false (fun m => by have := m.1; omega)
    rw [← this]; exact hK
theorem sml_test (n : Int) (h : H) (K : V → H → Prop) (hK : K (.test (decide (97 ≤ n ∧ n ≤ 122))) h) : SemF Try.prog 50 [.int .i32 n] h K := by
  refine SemF.test ?_
  refine enter tt_ok Try.func50 (nt := 9) (cd := body Try.f50) rfl rfl rfl rfl ?_
  intro _; refine ⟨fun g => ?_, fun g => ?_⟩
  · have g := of_decide_eq_true (show decide (n ≥ 97) = true from g)
    intro _
    refine ⟨_, .inr rfl, ?_⟩
    have : decide (97 ≤ n ∧ n ≤ 122) = decide (n ≤ 122) := by
      by_cases e : n ≤ 122
      · rw [decide_eq_true e, decide_eq_true (show 97 ≤ n ∧ n ≤ 122 from ⟨by omega, e⟩)]
      · rw [decide_eq_false e, decide_eq_false (fun m => e m.2)]
    rw [← this]; exact hK
  · have g := of_decide_eq_false (show decide (n ≥ 97) = false from g)
    intro _
    refine ⟨false, .inl rfl, ?_⟩
    have : decide (97 ≤ n ∧ n ≤ 122) = false := decide_eq_false (fun m => by have := m.1; omega)
    rw [← this]; exact hK
def sg (n : Int) : Bool := decide (32 < n ∧ n < 126 ∧ ¬ (97 ≤ n ∧ n ≤ 122) ∧ ¬ (65 ≤ n ∧ n ≤ 90) ∧ ¬ (48 ≤ n ∧ n ≤ 57))
theorem sign_test (n : Int) (h : H) (K : V → H → Prop) (hK : K (.test (sg n)) h) : SemF Try.prog 47 [.int .i32 n] h K := by
  refine SemF.test ?_
  refine enter tt_ok Try.func47 (nt := 24) (cd := body Try.f47) rfl rfl rfl rfl ?_
  have no : ∀ P : Prop, (sg n = true → P) → ¬ P → ∃ b, (V.bool false = .bool b ∨ V.bool false = .test b) ∧ K (.test b) h := fun P h1 h2 => ⟨false, .inl rfl, by
    have : sg n = false := by
      cases e : sg n with
      | false => rfl
      | true => exact absurd (h1 e) h2
    rw [← this]; exact hK⟩
  have un : sg n = true → (32 < n ∧ n < 126 ∧ ¬ (97 ≤ n ∧ n ≤ 122) ∧ ¬ (65 ≤ n ∧ n ≤ 90) ∧ ¬ (48 ≤ n ∧ n ≤ 57)) := fun h => of_decide_eq_true h
  intro _; refine ⟨fun g => ?_, fun g => ?_⟩
  rotate_left
  · have g := of_decide_eq_false (show decide (n > 32) = false from g)
    intro _
    exact no (32 < n) (fun h => (un h).1) (by omega)
  have g1 := of_decide_eq_true (show decide (n > 32) = true from g)
  intro _; refine ⟨fun g => ?_, fun g => ?_⟩
  rotate_left
  · have g := of_decide_eq_false (show decide (n < 126) = false from g)
    intro _
    exact no (n < 126) (fun h => (un h).2.1) (by omega)
  have g2 := of_decide_eq_true (show decide (n < 126) = true from g)
  intro _
  refine sml_test _ _ _ ?_
  intro _; refine ⟨fun g => ?_, fun g => ?_⟩
  rotate_left
  · have g : (!decide (97 ≤ n ∧ n ≤ 122)) = false := g
    rw [Bool.not_eq_false'] at g
    have g := of_decide_eq_true g
    intro _
    exact no (¬ (97 ≤ n ∧ n ≤ 122)) (fun h => (un h).2.2.1) (fun h => h g)
  have g : (!decide (97 ≤ n ∧ n ≤ 122)) = true := g
  rw [Bool.not_eq_true'] at g
  have g3 := of_decide_eq_false g
  intro _
  refine cap_test _ _ _ ?_
  intro _; refine ⟨fun g => ?_, fun g => ?_⟩
  rotate_left
  · have g : (!decide (65 ≤ n ∧ n ≤ 90)) = false := g
    rw [Bool.not_eq_false'] at g
    have g := of_decide_eq_true g
    intro _
    exact no (¬ (65 ≤ n ∧ n ≤ 90)) (fun h => (un h).2.2.2.1) (fun h => h g)
  have g : (!decide (65 ≤ n ∧ n ≤ 90)) = true := g
  rw [Bool.not_eq_true'] at g
  have g4 := of_decide_eq_false g
  intro _
  refine dig_test _ _ _ ?_
  intro _
  refine ⟨_, .inr rfl, ?_⟩
  have : sg n = !decide (48 ≤ n ∧ n ≤ 57) := by
    by_cases e : 48 ≤ n ∧ n ≤ 57
    · rw [decide_eq_true e]; exact decide_eq_false (fun h => h.2.2.2.2 e)
    · rw [decide_eq_false e]; exact decide_eq_true ⟨g1, g2, g3, g4, e⟩
  rw [← this]; exact hK
theorem class_ok (n : Int) : SemF Try.prog 31 [.int .i32 n] ⟨0, 0, []⟩ (fun v _ => v = .int .i64 (cl n) ∧ nameless v = true) := by
  refine enter tt_ok Try.func31 (nt := 35) (cd := body Try.f31) rfl rfl rfl rfl ?_
  intro _; refine ⟨fun g => ?_, fun g => ?_⟩
  · have g : (n == 126) = true := g
    have g : n = 126 := by simpa using g
    intro _
    refine ⟨?_, rfl⟩
    rw [show cl n = 6 by (unfold cl; repeat' split) <;> omega]
    rfl
  have g : (n == 126) = false := g
  have g6 : ¬ n = 126 := by simpa using g
  intro _
  refine sign_test _ _ _ ?_
  intro _; refine ⟨fun g => ?_, fun g => ?_⟩
  · have g := of_decide_eq_true (show decide (32 < n ∧ n < 126 ∧ ¬ (97 ≤ n ∧ n ≤ 122) ∧ ¬ (65 ≤ n ∧ n ≤ 90) ∧ ¬ (48 ≤ n ∧ n ≤ 57)) = true from g)
    intro _
    refine ⟨?_, rfl⟩
    rw [show cl n = 5 by (unfold cl; repeat' split) <;> omega]
    rfl
  have g5 := of_decide_eq_false (show decide (32 < n ∧ n < 126 ∧ ¬ (97 ≤ n ∧ n ≤ 122) ∧ ¬ (65 ≤ n ∧ n ≤ 90) ∧ ¬ (48 ≤ n ∧ n ≤ 57)) = false from g)
  intro _; refine ⟨fun g => ?_, fun g => ?_⟩
  · have g : (n == 32) = true := g
    have g : n = 32 := by simpa using g
    intro _
    refine ⟨?_, rfl⟩
    rw [show cl n = 4 by (unfold cl; repeat' split) <;> omega]
    rfl
  have g : (n == 32) = false := g
  have g4 : ¬ n = 32 := by simpa using g
  intro _
  refine dig_test _ _ _ ?_
  intro _; refine ⟨fun g => ?_, fun g => ?_⟩
  · have g := of_decide_eq_true (show decide (48 ≤ n ∧ n ≤ 57) = true from g)
    intro _
    refine ⟨?_, rfl⟩
    rw [show cl n = 3 by (unfold cl; repeat' split) <;> omega]
    rfl
  have g3 := of_decide_eq_false (show decide (48 ≤ n ∧ n ≤ 57) = false from g)
  intro _
  refine cap_test _ _ _ ?_
  intro _; refine ⟨fun g => ?_, fun g => ?_⟩
  · have g := of_decide_eq_true (show decide (65 ≤ n ∧ n ≤ 90) = true from g)
    intro _
    refine ⟨?_, rfl⟩
    rw [show cl n = 2 by (unfold cl; repeat' split) <;> omega]
    rfl
  have g2 := of_decide_eq_false (show decide (65 ≤ n ∧ n ≤ 90) = false from g)
  intro _
  refine sml_test _ _ _ ?_
  intro _; refine ⟨fun g => ?_, fun g => ?_⟩
  · have g := of_decide_eq_true (show decide (97 ≤ n ∧ n ≤ 122) = true from g)
    intro _
    refine ⟨?_, rfl⟩
    rw [show cl n = 1 by (unfold cl; repeat' split) <;> omega]
    rfl
  have g1 := of_decide_eq_false (show decide (97 ≤ n ∧ n ≤ 122) = false from g)
  intro _
  refine ⟨?_, rfl⟩
  rw [show cl n = 0 by (unfold cl; repeat' split) <;> omega]
/-! texts -/
def by' (s : List UInt8) (i : Nat) : Int := ((s.getD i 0).toNat : Int)
def VA (s : List UInt8) : Prop := s.length ≤ 2000 ∧ ∀ i, i < s.length → cl (by' s i) ≠ 0
instance decVA (s : List UInt8) : Decidable (VA s) := inferInstanceAs (Decidable (_ ∧ _))
theorem ba_get {s : List UInt8} {k : Nat} (h : k < s.length) : ∃ h' : k < (ByteArray.mk s.toArray).size, (ByteArray.mk s.toArray)[k]'h' = s[k] :=
  ⟨by simpa [ByteArray.size] using h, by show s.toArray[k]'_ = s[k]; simp⟩
theorem rune_low {s : List UInt8} {k : Nat} (h : k < s.length) (hb : by' s k < 128) : rune s k = ((s.getD k 0).toNat, 1) := by
  have e : s.getD k 0 = s[k] := by rw [List.getD_eq_getElem?_getD, List.getElem?_eq_getElem h]; rfl
  unfold by' at hb
  rw [e] at hb ⊢
  obtain ⟨h', e'⟩ := ba_get h
  have := Go.decode_ascii ⟨s.toArray⟩ k h' (by rw [e']; omega)
  rw [e'] at this
  exact this
theorem rune_high {s : List UInt8} {k : Nat} (h : k < s.length) (hb : 128 ≤ by' s k) : 128 ≤ (rune s k).1 := by
  have e : s.getD k 0 = s[k] := by rw [List.getD_eq_getElem?_getD, List.getElem?_eq_getElem h]; rfl
  unfold by' at hb
  rw [e] at hb
  obtain ⟨h', e'⟩ := ba_get h
  exact (Go.decode_high ⟨s.toArray⟩ k h' (by rw [e']; omega)).1
theorem by_succ {s : List UInt8} {k : Nat} (hm : ∀ i, i < k → cl (by' s i) ≠ 0) (h : cl (by' s k) ≠ 0) : ∀ i, i < k + 1 → cl (by' s i) ≠ 0 := fun i hi => by
  by_cases e : i = k
  · subst e; exact h
  · exact hm i (by omega)
theorem rvalid_ok (s : List UInt8) (hl : s.length ≤ 9223372036854775807) : SemF Try.prog 22 [.str s] ⟨0, 0, []⟩ (fun v _ => v = .test (decide (VA s)) ∧ nameless v = true) := by
  refine SemF.test ?_
  refine enter tt_ok Try.func22 (nt := 18) (cd := body Try.f22) rfl rfl rfl rfl ?_
  intro _
  refine loop2 tt_ok [3] [] 0 (fun k : { k : Nat // k ≤ s.length ∧ ∀ i, i < k → cl (by' s i) ≠ 0 } => [(3, .int .i64 (k : Nat))]) (fun _ => []) (fun k => s.length - k) ⟨0, by omega, fun i h => by omega⟩ ?_
  intro _
  refine ⟨⟨th [] 0, rfl, rfl, rfl, rfl, rfl, rfl, ?_, ?_⟩, ?_⟩
  · (repeat' first | exact trivial | exact rfl | refine And.intro ?_ ?_)
  · (repeat' first | exact trivial | exact rfl | refine And.intro ?_ ?_)
  intro ⟨k, hk, hmk⟩
  intro _; refine ⟨fun g => ?_, fun g => ?_⟩
  rotate_left
  · have hkl := of_decide_eq_false (show decide ((k : Int) < (s.length : Int)) = false from g)
    have hkl : k = s.length := by omega
    subst hkl
    intro _
    refine ⟨_, .inr rfl, ?_, rfl⟩
    by_cases e : s.length ≤ 2000
    · rw [decide_eq_true (show (s.length : Int) ≤ 2000 by omega), decide_eq_true (show VA s from ⟨e, hmk⟩)]
    · rw [decide_eq_false (show ¬ (s.length : Int) ≤ 2000 by omega), decide_eq_false (fun h : VA s => e h.1)]
  have hkl := of_decide_eq_true (show decide ((k : Int) < (s.length : Int)) = true from g)
  intro _; refine ⟨show 0 ≤ (k : Int) ∧ (k : Int) < (s.length : Int) by omega, ?_⟩
  intro _
  refine call_pure [] (rclass_ok (by' s k)) rfl rfl rfl ?_ ?_ ?_
  · (repeat' first | exact trivial | exact rfl | refine And.intro ?_ ?_)
  · (repeat' first | exact trivial | exact rfl | refine And.intro ?_ ?_)
  intro v hv _
  subst hv
  intro _; refine ⟨fun g => ?_, fun g => ?_⟩
  · have g : (cl (by' s k) == 0) = true := g
    have g : cl (by' s k) = 0 := by simpa using g
    intro _
    exact ⟨false, .inl rfl, by rw [decide_eq_false (fun h : VA s => h.2 k (by omega) g)], rfl⟩
  have g : (cl (by' s k) == 0) = false := g
  have g : cl (by' s k) ≠ 0 := by simpa using g
  refine ⟨⟨k + 1, by omega, by_succ hmk g⟩, by simp; omega, th [] 0, rfl, rfl, rfl, rfl, rfl, rfl, ?_, ?_⟩
  · (repeat' first | exact trivial | exact rfl | refine And.intro ?_ ?_)
    exact (wrap_nat k (by omega)).symm
  · (repeat' first | exact trivial | exact rfl | refine And.intro ?_ ?_)
theorem valid_ok (s : List UInt8) (hl : s.length ≤ 9223372036854775807) : SemF Try.prog 20 [.str s] ⟨0, 0, []⟩ (fun v _ => v = .test (decide (VA s)) ∧ nameless v = true) := by
  refine SemF.test ?_
  refine enter tt_ok Try.func20 (nt := 16) (cd := body Try.f20) rfl rfl rfl rfl ?_
  intro _; refine ⟨fun g => ?_, fun g => ?_⟩
  · have g := of_decide_eq_true (show decide ((s.length : Int) > 2000) = true from g)
    intro _
    exact ⟨false, .inl rfl, by rw [decide_eq_false (fun h : VA s => by have := h.1; omega)], rfl⟩
  have g2 := of_decide_eq_false (show decide ((s.length : Int) > 2000) = false from g)
  intro _
  refine loop2 tt_ok [] [0] 1 (fun k : { k : Nat // k ≤ s.length ∧ ∀ i, i < k → cl (by' s i) ≠ 0 } => []) (fun k => [(0, .sit s (k : Nat))]) (fun k => s.length - k) ⟨0, by omega, fun i h => by omega⟩ ?_
  intro _
  refine ⟨⟨th [] 1, rfl, rfl, rfl, rfl, rfl, rfl, ?_, ?_⟩, ?_⟩
  · (repeat' first | exact trivial | exact rfl | refine And.intro ?_ ?_)
  · (repeat' first | exact trivial | exact rfl | refine And.intro ?_ ?_)
  intro ⟨k, hk, hmk⟩
  intro _; refine ⟨fun g => ?_, fun g => ?_⟩
  rotate_left
  · have hkl := of_decide_eq_false (show decide (k < s.length) = false from g)
    have hkl : k = s.length := by omega
    subst hkl
    intro _
    exact ⟨true, .inl rfl, by rw [decide_eq_true (show VA s from ⟨by omega, hmk⟩)], rfl⟩
  have hkl := of_decide_eq_true (show decide (k < s.length) = true from g)
  intro _
  refine call_pure [] (class_ok ((rune s k).1 : Int)) rfl rfl rfl ?_ ?_ ?_
  · (repeat' first | exact trivial | exact rfl | refine And.intro ?_ ?_)
  · (repeat' first | exact trivial | exact rfl | refine And.intro ?_ ?_)
  intro v hv _
  subst hv
  intro _; refine ⟨fun g => ?_, fun g => ?_⟩
  · have g : (cl ((rune s k).1 : Int) == 0) = true := g
    have g : cl ((rune s k).1 : Int) = 0 := by simpa using g
    intro _
    refine ⟨false, .inl rfl, ?_, rfl⟩
    rw [decide_eq_false (fun h : VA s => ?_)]
    refine h.2 k hkl ?_
    by_cases hb : by' s k < 128
    · rw [rune_low hkl hb] at g; exact g
    · exact cl_high (by omega)
  have g : (cl ((rune s k).1 : Int) == 0) = false := g
  have g : cl ((rune s k).1 : Int) ≠ 0 := by simpa using g
  have hb : by' s k < 128 := by
    rcases Int.lt_or_le (by' s k) 128 with h | h
    · exact h
    · exact absurd (cl_high (show (128 : Int) ≤ (rune s k).1 by have := rune_high hkl h; omega)) g
  have er := rune_low hkl hb
  refine ⟨⟨k + 1, by omega, by_succ hmk (by rw [er] at g; exact g)⟩, by simp; omega, th [] 1, rfl, rfl, rfl, rfl, rfl, rfl, ?_, ?_⟩
  · (repeat' first | exact trivial | exact rfl | refine And.intro ?_ ?_)
  · (repeat' first | exact trivial | exact rfl | refine And.intro ?_ ?_)
    show k + 1 = k + (rune s k).2
    rw [er]
/-! what is shown -/
def sh (s : List UInt8) : List UInt8 := s.filter fun b => b != 126
def nums (l : List UInt8) : List Int := l.map fun b => (b.toNat : Int)
theorem nums_back (l : List UInt8) : ((nums l).map fun n => UInt8.ofNat n.toNat) = l := by
  unfold nums
  rw [List.map_map]
  have : ((fun n : Int => UInt8.ofNat n.toNat) ∘ fun b : UInt8 => (b.toNat : Int)) = id := by
    funext b
    simp
  rw [this, List.map_id]
theorem sh_succ {s : List UInt8} {k : Nat} (h : k < s.length) : sh (s.take (k + 1)) = sh (s.take k) ++ (if by' s k = 126 then [] else [s.getD k 0]) := by
  have e : s.getD k 0 = s[k] := by rw [List.getD_eq_getElem?_getD, List.getElem?_eq_getElem h]; rfl
  unfold sh
  rw [List.take_succ_eq_append_getElem h, List.filter_append, ← e]
  congr 1
  unfold by'
  by_cases q : s.getD k 0 = 126
  · rw [q]; rfl
  · have q2 : ¬ ((s.getD k 0).toNat : Int) = 126 := fun h => q (by
      have : (s.getD k 0).toNat = 126 := by omega
      exact UInt8.toNat_inj.1 this)
    rw [if_neg q2]
    have q3 : (s.getD k 0 != 126) = true := by rw [bne_iff_ne]; exact q
    rw [List.filter_cons, if_pos q3]
    rfl
theorem sh_len (s : List UInt8) (k : Nat) : (sh (s.take k)).length ≤ k := by
  unfold sh
  exact Nat.le_trans (List.length_filter_le _ _) (by simp; omega)
theorem nums_len (l : List UInt8) : (nums l).length = l.length := by simp [nums]
theorem nums_app (a b : List UInt8) : nums (a ++ b) = nums a ++ nums b := by simp [nums]
theorem wrap8 (n : Int) : IntKind.u8.wrap n = n % 256 := by
  simp only [IntKind.wrap, IntKind.bits, IntKind.signed, Bool.false_and, Bool.false_eq_true, if_false]
  rfl
theorem shown_ok (s : List UInt8) (hV : VA s) : SemF Try.prog 52 [.str s] ⟨0, 0, []⟩ (fun v _ => v = .str (sh s) ∧ nameless v = true) := by
  have hl := hV.1
  refine enter tt_ok Try.func52 (nt := 23) (cd := body Try.f52) rfl rfl rfl rfl ?_
  intro _
  refine loop2 tt_ok [4, 3] [0] 1 (fun k : { k : Nat // k ≤ s.length } => [(4, .int .i64 (k : Nat)), (3, .grw 0 (sh (s.take k)).length)]) (fun k => [(0, .arr [.int .u8] .grow (.ints (nums (sh (s.take k)))))]) (fun k => s.length - k) ⟨0, by omega⟩ ?_
  intro _
  refine ⟨⟨th [(0, none)] 1, rfl, rfl, rfl, rfl, rfl, rfl, ?_, ?_⟩, ?_⟩
  · (repeat' first | exact trivial | exact rfl | refine And.intro ?_ ?_)
  · (repeat' first | exact trivial | exact rfl | refine And.intro ?_ ?_)
  intro ⟨k, hk⟩
  intro _; refine ⟨fun g => ?_, fun g => ?_⟩
  rotate_left
  · have hkl := of_decide_eq_false (show decide ((k : Int) < (s.length : Int)) = false from g)
    have hkl : k = s.length := by omega
    subst hkl
    intro _; refine ⟨(nums_len _).symm, ?_⟩
    intro _
    refine ⟨?_, rfl⟩
    show V.str ((nums (sh (s.take s.length))).map fun n => UInt8.ofNat n.toNat) = _
    rw [nums_back, List.take_length]
  have hkl := of_decide_eq_true (show decide ((k : Int) < (s.length : Int)) = true from g)
  have hkn : k < s.length := by omega
  have hs := sh_succ hkn
  have hn := sh_len s k
  intro _; refine ⟨show 0 ≤ (k : Int) ∧ (k : Int) < (s.length : Int) by omega, ?_⟩
  intro _; refine ⟨fun g => ?_, fun g => ?_⟩
  rotate_left
  · have g : (by' s k != 126) = false := g
    have g : by' s k = 126 := by simpa using g
    rw [if_pos g, List.append_nil] at hs
    refine ⟨⟨k + 1, by omega⟩, by simp; omega, th [] 1, rfl, rfl, rfl, rfl, rfl, rfl, ?_, ?_⟩
    · (repeat' first | exact trivial | exact rfl | refine And.intro ?_ ?_)
      · exact (wrap_nat k (by omega)).symm
      · rw [hs]; (repeat' first | exact trivial | exact rfl | refine And.intro ?_ ?_)
    · (repeat' first | exact trivial | exact rfl | refine And.intro ?_ ?_)
      rw [hs]; (repeat' first | exact trivial | exact rfl | refine And.intro ?_ ?_)
  have g : (by' s k != 126) = true := g
  have g : ¬ by' s k = 126 := by simpa using g
  rw [if_neg g] at hs
  intro _; refine ⟨show 0 ≤ (k : Int) ∧ (k : Int) < (s.length : Int) by omega, ?_⟩
  intro _; refine ⟨rfl, ?_⟩
  intro _; refine ⟨fun g3 => by simp at g3, fun _ => ?_⟩
  refine ⟨⟨(nums_len _).symm, show (sh (s.take k)).length + 1 ≤ 4611686018427387904 by omega, show ((sh (s.take k)).length + 1) * 1 ≤ 140737488355328 by omega⟩, ?_⟩
  refine ⟨⟨k + 1, by omega⟩, by simp; omega, th [(0, some 2)] 1, rfl, rfl, rfl, rfl, rfl, rfl, ?_, ?_⟩
  · (repeat' first | exact trivial | exact rfl | refine And.intro ?_ ?_)
    · exact (wrap_nat k (by omega)).symm
    · rw [hs, List.length_append]; (repeat' first | exact trivial | exact rfl | refine And.intro ?_ ?_)
  · (repeat' first | exact trivial | exact rfl | refine And.intro ?_ ?_)
    rw [hs, nums_app]
    rfl
def SQ (s : List UInt8) : V := if VA s then .tup [.str (sh s), .int .i64 0] else .tup [.str [], .int .i64 1]
theorem rShown_ok (s : List UInt8) (hl : s.length ≤ 9223372036854775807) : SemF Try.prog 45 [.str s] ⟨0, 0, []⟩ (fun v _ => v = SQ s ∧ nameless v = true) := by
  refine enter tt_ok Try.func45 (nt := 9) (cd := body Try.f45) rfl rfl rfl rfl ?_
  intro _
  refine call_pure [] (rvalid_ok s hl) rfl rfl rfl ?_ ?_ ?_
  · (repeat' first | exact trivial | exact rfl | refine And.intro ?_ ?_)
  · (repeat' first | exact trivial | exact rfl | refine And.intro ?_ ?_)
  intro v hv _
  subst hv
  intro _; refine ⟨fun g => ?_, fun g => ?_⟩
  · have g : (!decide (VA s)) = true := g
    rw [Bool.not_eq_true'] at g
    have g := of_decide_eq_false g
    intro _
    exact ⟨by unfold SQ; rw [if_neg g], rfl⟩
  have g : (!decide (VA s)) = false := g
  rw [Bool.not_eq_false'] at g
  have hV := of_decide_eq_true g
  intro _
  refine call_pure [] (shown_ok s hV) rfl rfl rfl ?_ ?_ ?_
  · (repeat' first | exact trivial | exact rfl | refine And.intro ?_ ?_)
  · (repeat' first | exact trivial | exact rfl | refine And.intro ?_ ?_)
  intro v hv _
  subst hv
  intro _
  exact ⟨by unfold SQ; rw [if_pos hV], rfl⟩
theorem Shown_ok (s : List UInt8) (hl : s.length ≤ 9223372036854775807) : SemF Try.prog 26 [.str s] ⟨0, 0, []⟩ (fun v _ => v = SQ s ∧ nameless v = true) := by
  refine enter tt_ok Try.func26 (nt := 13) (cd := body Try.f26) rfl rfl rfl rfl ?_
  intro _
  refine call_pure [] (valid_ok s hl) rfl rfl rfl ?_ ?_ ?_
  · (repeat' first | exact trivial | exact rfl | refine And.intro ?_ ?_)
  · (repeat' first | exact trivial | exact rfl | refine And.intro ?_ ?_)
  intro v hv _
  subst hv
  intro _; refine ⟨fun g => ?_, fun g => ?_⟩
  · have g : (!decide (VA s)) = true := g
    rw [Bool.not_eq_true'] at g
    have g := of_decide_eq_false g
    intro _
    exact ⟨by unfold SQ; rw [if_neg g], rfl⟩
  have g : (!decide (VA s)) = false := g
  rw [Bool.not_eq_false'] at g
  have hV := of_decide_eq_true g
  intro _
  refine enter tt_ok Try.func29 (nt := 14) (cd := body Try.f29) rfl rfl rfl rfl ?_
  intro _
  refine loop2 tt_ok [] [0, 1, 2] 3 (fun k : { k : Nat // k ≤ s.length } => []) (fun k => [(0, .cells [.grw 2 (sh (s.take k)).length]), (1, .sit s (k : Nat)), (2, .arr [.int .u8] .grow (.ints (nums (sh (s.take k)))))]) (fun k => s.length - k) ⟨0, by omega⟩ ?_
  intro _
  refine ⟨⟨th [(2, none)] 3, rfl, rfl, rfl, rfl, rfl, rfl, ?_, ?_⟩, ?_⟩
  · (repeat' first | exact trivial | exact rfl | refine And.intro ?_ ?_)
  · (repeat' first | exact trivial | exact rfl | refine And.intro ?_ ?_)
  intro ⟨k, hk⟩
  intro _; refine ⟨fun g => ?_, fun g => ?_⟩
  rotate_left
  · have hkl := of_decide_eq_false (show decide (k < s.length) = false from g)
    have hkl : k = s.length := by omega
    subst hkl
    intro _
    intro _; refine ⟨(nums_len _).symm, ?_⟩
    intro _
    refine ⟨?_, rfl⟩
    show V.tup [V.str ((nums (sh (s.take s.length))).map fun n => UInt8.ofNat n.toNat), .int .i64 0] = _
    rw [nums_back, List.take_length]
    unfold SQ
    rw [if_pos hV]
  have hkl := of_decide_eq_true (show decide (k < s.length) = true from g)
  have hb : by' s k < 128 := by
    rcases Int.lt_or_le (by' s k) 128 with h | h
    · exact h
    · exact absurd (cl_high h) (hV.2 k hkl)
  have er := rune_low hkl hb
  have e1 : ((rune s k).1 : Int) = by' s k := by rw [er]; rfl
  have e2 : (rune s k).2 = 1 := by rw [er]
  have h2 := hV.1
  have hs := sh_succ hkl
  have hn := sh_len s k
  intro _
  refine enter tt_ok Try.func44 (nt := 10) (cd := body Try.f44) rfl rfl rfl rfl ?_
  intro _; refine ⟨fun g => ?_, fun g => ?_⟩
  rotate_left
  · have g : (((rune s k).1 : Int) != 126) = false := g
    rw [e1] at g
    have g : by' s k = 126 := by simpa using g
    rw [if_pos g, List.append_nil] at hs
    intro _
    refine ⟨⟨k + 1, by omega⟩, by simp; omega, th [] 3, rfl, rfl, rfl, rfl, rfl, rfl, ?_, ?_⟩
    · (repeat' first | exact trivial | exact rfl | refine And.intro ?_ ?_)
    · (repeat' first | exact trivial | exact rfl | refine And.intro ?_ ?_)
      · rw [hs]; (repeat' first | exact trivial | exact rfl | refine And.intro ?_ ?_)
      · show k + 1 = k + (rune s k).2
        rw [e2]
      · rw [hs]; (repeat' first | exact trivial | exact rfl | refine And.intro ?_ ?_)
  have g : (((rune s k).1 : Int) != 126) = true := g
  rw [e1] at g
  have g : ¬ by' s k = 126 := by simpa using g
  rw [if_neg g] at hs
  intro _; refine ⟨rfl, ?_⟩
  intro _; refine ⟨fun g3 => by simp at g3, fun _ => ?_⟩
  refine ⟨⟨(nums_len _).symm, show (sh (s.take k)).length + 1 ≤ 4611686018427387904 by omega, show ((sh (s.take k)).length + 1) * 1 ≤ 140737488355328 by omega⟩, ?_⟩
  intro _
  refine ⟨⟨k + 1, by omega⟩, by simp; omega, th [(2, some 4)] 3, rfl, rfl, rfl, rfl, rfl, rfl, ?_, ?_⟩
  · (repeat' first | exact trivial | exact rfl | refine And.intro ?_ ?_)
  · (repeat' first | exact trivial | exact rfl | refine And.intro ?_ ?_)
    · rw [hs, List.length_append]; (repeat' first | exact trivial | exact rfl | refine And.intro ?_ ?_)
    · show k + 1 = k + (rune s k).2
      rw [e2]
    · show nums (sh (s.take (k + 1))) = nums (sh (s.take k)) ++ [IntKind.u8.wrap ((rune s k).1 : Int)]
      have hq : by' s k % 256 = by' s k := by unfold by' at hb ⊢; omega
      rw [hs, nums_app, e1, wrap8, hq]
      rfl
/-! words -/
def stw (c : Int × Bool) (b : Int) : Int × Bool := if b = 32 then (c.1, false) else if b ≠ 126 ∧ c.2 = false then (c.1 + 1, true) else c
def wk (s : List UInt8) : Nat → Int × Bool
  | 0 => (0, false)
  | k + 1 => stw (wk s k) (by' s k)
theorem wk_bd (s : List UInt8) : ∀ k, 0 ≤ (wk s k).1 ∧ (wk s k).1 ≤ k
  | 0 => by simp [wk]
  | k + 1 => by
    have := wk_bd s k
    simp only [wk, stw]
    split
    · simp only []; omega
    · split
      · simp only []; omega
      · omega
def WQ (s : List UInt8) : V := if VA s then .tup [.int .i64 (wk s s.length).1, .int .i64 0] else .tup [.int .i64 0, .int .i64 1]
theorem words_ok (s : List UInt8) (hl : s.length ≤ 9223372036854775807) : SemF Try.prog 19 [.str s] ⟨0, 0, []⟩ (fun v _ => v = WQ s ∧ nameless v = true) := by
  refine enter tt_ok Try.func19 (nt := 13) (cd := body Try.f19) rfl rfl rfl rfl ?_
  intro _
  refine call_pure [] (valid_ok s hl) rfl rfl rfl ?_ ?_ ?_
  · (repeat' first | exact trivial | exact rfl | refine And.intro ?_ ?_)
  · (repeat' first | exact trivial | exact rfl | refine And.intro ?_ ?_)
  intro v hv _
  subst hv
  intro _; refine ⟨fun g => ?_, fun g => ?_⟩
  · have g : (!decide (VA s)) = true := g
    rw [Bool.not_eq_true'] at g
    have g := of_decide_eq_false g
    intro _
    exact ⟨by unfold WQ; rw [if_neg g], rfl⟩
  have g : (!decide (VA s)) = false := g
  rw [Bool.not_eq_false'] at g
  have hV := of_decide_eq_true g
  intro _
  refine enter tt_ok Try.func29 (nt := 14) (cd := body Try.f29) rfl rfl rfl rfl ?_
  intro _
  refine loop2 tt_ok [] [0, 1, 2] 3 (fun k : { k : Nat // k ≤ s.length } => []) (fun k => [(0, .cells [.int .i64 (wk s k).1]), (1, .cells [.test (wk s k).2]), (2, .sit s (k : Nat))]) (fun k => s.length - k) ⟨0, by omega⟩ ?_
  intro _
  refine ⟨⟨th [] 3, rfl, rfl, rfl, rfl, rfl, rfl, ?_, ?_⟩, ?_⟩
  · (repeat' first | exact trivial | exact rfl | refine And.intro ?_ ?_)
  · (repeat' first | exact trivial | exact rfl | refine And.intro ?_ ?_)
  intro ⟨k, hk⟩
  intro _; refine ⟨fun g => ?_, fun g => ?_⟩
  rotate_left
  · have hkl := of_decide_eq_false (show decide (k < s.length) = false from g)
    have hkl : k = s.length := by omega
    subst hkl
    intro _
    intro _
    refine ⟨?_, rfl⟩
    unfold WQ
    rw [if_pos hV]
  have hkl := of_decide_eq_true (show decide (k < s.length) = true from g)
  have hb : by' s k < 128 := by
    rcases Int.lt_or_le (by' s k) 128 with h | h
    · exact h
    · exact absurd (cl_high h) (hV.2 k hkl)
  have er := rune_low hkl hb
  have e1 : ((rune s k).1 : Int) = by' s k := by rw [er]; rfl
  have e2 : (rune s k).2 = 1 := by rw [er]
  have wb := wk_bd s k
  have h2 := hV.1
  intro _
  refine enter tt_ok Try.func30 (nt := 16) (cd := body Try.f30) rfl rfl rfl rfl ?_
  intro _; refine ⟨fun g => ?_, fun g => ?_⟩
  · have g : (((rune s k).1 : Int) == 32) = true := g
    rw [e1] at g
    have g : by' s k = 32 := by simpa using g
    intro _
    refine ⟨⟨k + 1, by omega⟩, by simp; omega, th [] 3, rfl, rfl, rfl, rfl, rfl, rfl, ?_, ?_⟩
    · (repeat' first | exact trivial | exact rfl | refine And.intro ?_ ?_)
    · (repeat' first | exact trivial | exact rfl | refine And.intro ?_ ?_)
      · show (stw (wk s k) (by' s k)).1 = (wk s k).1
        unfold stw; rw [if_pos g]
      · show (stw (wk s k) (by' s k)).2 = false
        unfold stw; rw [if_pos g]
      · show k + 1 = k + (rune s k).2
        rw [e2]
  have g : (((rune s k).1 : Int) == 32) = false := g
  rw [e1] at g
  have g32 : ¬ by' s k = 32 := by simpa using g
  intro _; refine ⟨fun g => ?_, fun g => ?_⟩
  rotate_left
  · have g : (((rune s k).1 : Int) != 126) = false := g
    rw [e1] at g
    have g : by' s k = 126 := by simpa using g
    intro _
    refine ⟨⟨k + 1, by omega⟩, by simp; omega, th [] 3, rfl, rfl, rfl, rfl, rfl, rfl, ?_, ?_⟩
    · (repeat' first | exact trivial | exact rfl | refine And.intro ?_ ?_)
    · (repeat' first | exact trivial | exact rfl | refine And.intro ?_ ?_)
      · show (stw (wk s k) (by' s k)).1 = (wk s k).1
        unfold stw; rw [if_neg g32, if_neg (fun h => h.1 g)]
      · show (stw (wk s k) (by' s k)).2 = (wk s k).2
        unfold stw; rw [if_neg g32, if_neg (fun h => h.1 g)]
      · show k + 1 = k + (rune s k).2
        rw [e2]
  have g : (((rune s k).1 : Int) != 126) = true := g
  rw [e1] at g
  have g126 : by' s k ≠ 126 := by simpa using g
  intro _; refine ⟨fun g => ?_, fun g => ?_⟩
  · have g : (!(wk s k).2) = true := g
    have g : (wk s k).2 = false := by simpa using g
    intro _
    refine ⟨⟨k + 1, by omega⟩, by simp; omega, th [] 3, rfl, rfl, rfl, rfl, rfl, rfl, ?_, ?_⟩
    · (repeat' first | exact trivial | exact rfl | refine And.intro ?_ ?_)
    · (repeat' first | exact trivial | exact rfl | refine And.intro ?_ ?_)
      · show (stw (wk s k) (by' s k)).1 = IntKind.i64.wrap ((wk s k).1 + 1)
        unfold stw; rw [if_neg g32, if_pos ⟨g126, g⟩, wrapS _ ⟨by omega, by omega⟩]
      · show (stw (wk s k) (by' s k)).2 = true
        unfold stw; rw [if_neg g32, if_pos ⟨g126, g⟩]
      · show k + 1 = k + (rune s k).2
        rw [e2]
  · have g : (!(wk s k).2) = false := g
    have g : (wk s k).2 = true := by simpa using g
    intro _
    refine ⟨⟨k + 1, by omega⟩, by simp; omega, th [] 3, rfl, rfl, rfl, rfl, rfl, rfl, ?_, ?_⟩
    · (repeat' first | exact trivial | exact rfl | refine And.intro ?_ ?_)
    · (repeat' first | exact trivial | exact rfl | refine And.intro ?_ ?_)
      · show (stw (wk s k) (by' s k)).1 = (wk s k).1
        unfold stw; rw [if_neg g32, if_neg (fun h => by rw [g] at h; exact absurd h.2 (by simp))]
      · show (stw (wk s k) (by' s k)).2 = (wk s k).2
        unfold stw; rw [if_neg g32, if_neg (fun h => by rw [g] at h; exact absurd h.2 (by simp))]
      · show k + 1 = k + (rune s k).2
        rw [e2]
def trL : Nat → List UInt8 → List UInt8
  | 0, l => l
  | n + 1, l => if 0 < l.length ∧ by' l 0 = 32 then trL n (l.drop 1) else l
def trR : Nat → List UInt8 → List UInt8
  | 0, l => l
  | n + 1, l => if 0 < l.length ∧ by' l (l.length - 1) = 32 then trR n (l.take (l.length - 1)) else l
def tr (s : List UInt8) : List UInt8 := trR 2000 (trL 2000 s)
theorem trL_le : ∀ (n : Nat) (l : List UInt8), (trL n l).length ≤ l.length
  | 0, l => Nat.le_refl _
  | n + 1, l => by
    simp only [trL]
    split
    · exact Nat.le_trans (trL_le n _) (by simp)
    · exact Nat.le_refl _
def TQ (s : List UInt8) : V := if VA s then .tup [.str (tr s), .int .i64 0] else .tup [.str [], .int .i64 1]
theorem cut_lo (l : List UInt8) : (l.drop (1 : Int).toNat).take (((l.length : Int)).toNat - (1 : Int).toNat) = l.drop 1 := by
  rw [List.take_of_length_le]
  · rfl
  · simp
theorem cut_hi (l : List UInt8) (n : Int) : (l.drop (0 : Int).toNat).take (n.toNat - (0 : Int).toNat) = l.take n.toNat := by
  simp
theorem Trim_ok (s : List UInt8) (hl : s.length ≤ 9223372036854775807) : SemF Try.prog 27 [.str s] ⟨0, 0, []⟩ (fun v _ => v = TQ s ∧ nameless v = true) := by
  refine enter tt_ok Try.func27 (nt := 34) (cd := body Try.f27) rfl rfl rfl rfl ?_
  intro _
  refine call_pure [] (valid_ok s hl) rfl rfl rfl ?_ ?_ ?_
  · (repeat' first | exact trivial | exact rfl | refine And.intro ?_ ?_)
  · (repeat' first | exact trivial | exact rfl | refine And.intro ?_ ?_)
  intro v hv _
  subst hv
  intro _; refine ⟨fun g => ?_, fun g => ?_⟩
  · have g : (!decide (VA s)) = true := g
    rw [Bool.not_eq_true'] at g
    have g := of_decide_eq_false g
    intro _
    exact ⟨by unfold TQ; rw [if_neg g], rfl⟩
  have g : (!decide (VA s)) = false := g
  rw [Bool.not_eq_false'] at g
  have hV := of_decide_eq_true g
  intro _
  refine loop2 tt_ok [0] [] 0 (fun k : { p : Nat × List UInt8 // p.2.length ≤ p.1 ∧ p.1 ≤ 2000 ∧ trL p.1 p.2 = trL 2000 s } => [(0, .str k.1.2)]) (fun _ => []) (fun k => k.1.1) ⟨(2000, s), hV.1, Nat.le_refl _, rfl⟩ ?_
  intro _
  refine ⟨⟨th [] 0, rfl, rfl, rfl, rfl, rfl, rfl, ?_, ?_⟩, ?_⟩
  · (repeat' first | exact trivial | exact rfl | refine And.intro ?_ ?_)
  · (repeat' first | exact trivial | exact rfl | refine And.intro ?_ ?_)
  intro ⟨⟨n, l⟩, hn, h2, ht⟩
  simp only [] at hn h2 ht
  have done1 : ¬ (0 < l.length ∧ by' l 0 = 32) → l = trL 2000 s := fun h => by
    rw [← ht]
    cases n with
    | zero => rfl
    | succ n => simp only [trL]; rw [if_neg h]
  intro _; refine ⟨fun g => ?_, fun g => ?_⟩
  rotate_left
  · have g := of_decide_eq_false (show decide ((l.length : Int) > 0) = false from g)
    have hd := done1 (fun h => by omega)
    intro _
    refine loop2 tt_ok [0] [] 0 (fun k : { p : Nat × List UInt8 // p.2.length ≤ p.1 ∧ p.1 ≤ 2000 ∧ trR p.1 p.2 = tr s } => [(0, .str k.1.2)]) (fun _ => []) (fun k => k.1.1) ⟨(2000, l), by have := trL_le 2000 s; rw [← hd] at this; have := hV.1; simp only []; omega, Nat.le_refl _, by rw [hd]; rfl⟩ ?_
    intro _
    refine ⟨⟨th [] 0, rfl, rfl, rfl, rfl, rfl, rfl, ?_, ?_⟩, ?_⟩
    · (repeat' first | exact trivial | exact rfl | refine And.intro ?_ ?_)
    · (repeat' first | exact trivial | exact rfl | refine And.intro ?_ ?_)
    intro ⟨⟨n, l⟩, hn, h2, ht⟩
    simp only [] at hn h2 ht
    have done2 : ¬ (0 < l.length ∧ by' l (l.length - 1) = 32) → TQ s = .tup [.str l, .int .i64 0] := fun h => by
      unfold TQ
      rw [if_pos hV, ← ht]
      cases n with
      | zero => rfl
      | succ n => simp only [trR]; rw [if_neg h]
    intro _; refine ⟨fun g => ?_, fun g => ?_⟩
    rotate_left
    · have g := of_decide_eq_false (show decide ((l.length : Int) > 0) = false from g)
      intro _
      exact ⟨(done2 (fun h => by omega)).symm, rfl⟩
    have g1 := of_decide_eq_true (show decide ((l.length : Int) > 0) = true from g)
    have eW : IntKind.i64.wrap ((l.length : Int) - 1) = ((l.length - 1 : Nat) : Int) := by rw [wrapS _ ⟨by omega, by have := hV.1; omega⟩]; omega
    intro _; refine ⟨show 0 ≤ IntKind.i64.wrap ((l.length : Int) - 1) ∧ IntKind.i64.wrap ((l.length : Int) - 1) < (l.length : Int) by rw [eW]; omega, ?_⟩
    intro _; refine ⟨fun g => ?_, fun g => ?_⟩
    rotate_left
    · have g : (by' l (IntKind.i64.wrap ((l.length : Int) - 1)).toNat == 32) = false := g
      rw [eW] at g
      have g : ¬ by' l (l.length - 1) = 32 := by simpa using g
      intro _
      exact ⟨(done2 (fun h => g h.2)).symm, rfl⟩
    have g : (by' l (IntKind.i64.wrap ((l.length : Int) - 1)).toNat == 32) = true := g
    rw [eW] at g
    have gz : by' l (l.length - 1) = 32 := by simpa using g
    intro _; refine ⟨show 0 ≤ (0 : Int) ∧ (0 : Int) ≤ IntKind.i64.wrap ((l.length : Int) - 1) ∧ IntKind.i64.wrap ((l.length : Int) - 1) ≤ (l.length : Int) by rw [eW]; omega, ?_⟩
    cases n with
    | zero => omega
    | succ n =>
      refine ⟨⟨(n, l.take (l.length - 1)), by simp; omega, by omega, ?_⟩, by simp, th [] 0, rfl, rfl, rfl, rfl, rfl, rfl, ?_, ?_⟩
      · rw [← ht]
        simp only [trR]
        rw [if_pos ⟨by omega, gz⟩]
      · (repeat' first | exact trivial | exact rfl | refine And.intro ?_ ?_)
        show l.take (l.length - 1) = (l.drop (0 : Int).toNat).take ((IntKind.i64.wrap ((l.length : Int) - 1)).toNat - (0 : Int).toNat)
        rw [cut_hi, eW]
        rfl
      · (repeat' first | exact trivial | exact rfl | refine And.intro ?_ ?_)
  have g1 := of_decide_eq_true (show decide ((l.length : Int) > 0) = true from g)
  intro _; refine ⟨show 0 ≤ (0 : Int) ∧ (0 : Int) < (l.length : Int) by omega, ?_⟩
  intro _; refine ⟨fun g => ?_, fun g => ?_⟩
  rotate_left
  · have g : (by' l 0 == 32) = false := g
    have g : ¬ by' l 0 = 32 := by simpa using g
    have hd := done1 (fun h => g h.2)
    intro _
    refine loop2 tt_ok [0] [] 0 (fun k : { p : Nat × List UInt8 // p.2.length ≤ p.1 ∧ p.1 ≤ 2000 ∧ trR p.1 p.2 = tr s } => [(0, .str k.1.2)]) (fun _ => []) (fun k => k.1.1) ⟨(2000, l), by have := trL_le 2000 s; rw [← hd] at this; have := hV.1; simp only []; omega, Nat.le_refl _, by rw [hd]; rfl⟩ ?_
    intro _
    refine ⟨⟨th [] 0, rfl, rfl, rfl, rfl, rfl, rfl, ?_, ?_⟩, ?_⟩
    · (repeat' first | exact trivial | exact rfl | refine And.intro ?_ ?_)
    · (repeat' first | exact trivial | exact rfl | refine And.intro ?_ ?_)
    intro ⟨⟨n, l⟩, hn, h2, ht⟩
    simp only [] at hn h2 ht
    have done2 : ¬ (0 < l.length ∧ by' l (l.length - 1) = 32) → TQ s = .tup [.str l, .int .i64 0] := fun h => by
      unfold TQ
      rw [if_pos hV, ← ht]
      cases n with
      | zero => rfl
      | succ n => simp only [trR]; rw [if_neg h]
    intro _; refine ⟨fun g => ?_, fun g => ?_⟩
    rotate_left
    · have g := of_decide_eq_false (show decide ((l.length : Int) > 0) = false from g)
      intro _
      exact ⟨(done2 (fun h => by omega)).symm, rfl⟩
    have g1 := of_decide_eq_true (show decide ((l.length : Int) > 0) = true from g)
    have eW : IntKind.i64.wrap ((l.length : Int) - 1) = ((l.length - 1 : Nat) : Int) := by rw [wrapS _ ⟨by omega, by have := hV.1; omega⟩]; omega
    intro _; refine ⟨show 0 ≤ IntKind.i64.wrap ((l.length : Int) - 1) ∧ IntKind.i64.wrap ((l.length : Int) - 1) < (l.length : Int) by rw [eW]; omega, ?_⟩
    intro _; refine ⟨fun g => ?_, fun g => ?_⟩
    rotate_left
    · have g : (by' l (IntKind.i64.wrap ((l.length : Int) - 1)).toNat == 32) = false := g
      rw [eW] at g
      have g : ¬ by' l (l.length - 1) = 32 := by simpa using g
      intro _
      exact ⟨(done2 (fun h => g h.2)).symm, rfl⟩
    have g : (by' l (IntKind.i64.wrap ((l.length : Int) - 1)).toNat == 32) = true := g
    rw [eW] at g
    have gz : by' l (l.length - 1) = 32 := by simpa using g
    intro _; refine ⟨show 0 ≤ (0 : Int) ∧ (0 : Int) ≤ IntKind.i64.wrap ((l.length : Int) - 1) ∧ IntKind.i64.wrap ((l.length : Int) - 1) ≤ (l.length : Int) by rw [eW]; omega, ?_⟩
    cases n with
    | zero => omega
    | succ n =>
      refine ⟨⟨(n, l.take (l.length - 1)), by simp; omega, by omega, ?_⟩, by simp, th [] 0, rfl, rfl, rfl, rfl, rfl, rfl, ?_, ?_⟩
      · rw [← ht]
        simp only [trR]
        rw [if_pos ⟨by omega, gz⟩]
      · (repeat' first | exact trivial | exact rfl | refine And.intro ?_ ?_)
        show l.take (l.length - 1) = (l.drop (0 : Int).toNat).take ((IntKind.i64.wrap ((l.length : Int) - 1)).toNat - (0 : Int).toNat)
        rw [cut_hi, eW]
        rfl
      · (repeat' first | exact trivial | exact rfl | refine And.intro ?_ ?_)
  have g : (by' l 0 == 32) = true := g
  have gz : by' l 0 = 32 := by simpa using g
  intro _; refine ⟨show 0 ≤ (1 : Int) ∧ (1 : Int) ≤ (l.length : Int) ∧ (l.length : Int) ≤ (l.length : Int) by omega, ?_⟩
  cases n with
  | zero => omega
  | succ n =>
    refine ⟨⟨(n, l.drop 1), by simp; omega, by omega, ?_⟩, by simp, th [] 0, rfl, rfl, rfl, rfl, rfl, rfl, ?_, ?_⟩
    · rw [← ht]
      simp only [trL]
      rw [if_pos ⟨by omega, gz⟩]
    · (repeat' first | exact trivial | exact rfl | refine And.intro ?_ ?_)
      exact (cut_lo l).symm
    · (repeat' first | exact trivial | exact rfl | refine And.intro ?_ ?_)
theorem rTrim_ok (s : List UInt8) (hl : s.length ≤ 9223372036854775807) : SemF Try.prog 46 [.str s] ⟨0, 0, []⟩ (fun v _ => v = TQ s ∧ nameless v = true) := by
  refine enter tt_ok Try.func46 (nt := 34) (cd := body Try.f46) rfl rfl rfl rfl ?_
  intro _
  refine call_pure [] (rvalid_ok s hl) rfl rfl rfl ?_ ?_ ?_
  · (repeat' first | exact trivial | exact rfl | refine And.intro ?_ ?_)
  · (repeat' first | exact trivial | exact rfl | refine And.intro ?_ ?_)
  intro v hv _
  subst hv
  intro _; refine ⟨fun g => ?_, fun g => ?_⟩
  · have g : (!decide (VA s)) = true := g
    rw [Bool.not_eq_true'] at g
    have g := of_decide_eq_false g
    intro _
    exact ⟨by unfold TQ; rw [if_neg g], rfl⟩
  have g : (!decide (VA s)) = false := g
  rw [Bool.not_eq_false'] at g
  have hV := of_decide_eq_true g
  intro _
  refine loop2 tt_ok [0] [] 0 (fun k : { p : Nat × List UInt8 // p.2.length ≤ p.1 ∧ p.1 ≤ 2000 ∧ trL p.1 p.2 = trL 2000 s } => [(0, .str k.1.2)]) (fun _ => []) (fun k => k.1.1) ⟨(2000, s), hV.1, Nat.le_refl _, rfl⟩ ?_
  intro _
  refine ⟨⟨th [] 0, rfl, rfl, rfl, rfl, rfl, rfl, ?_, ?_⟩, ?_⟩
  · (repeat' first | exact trivial | exact rfl | refine And.intro ?_ ?_)
  · (repeat' first | exact trivial | exact rfl | refine And.intro ?_ ?_)
  intro ⟨⟨n, l⟩, hn, h2, ht⟩
  simp only [] at hn h2 ht
  have done1 : ¬ (0 < l.length ∧ by' l 0 = 32) → l = trL 2000 s := fun h => by
    rw [← ht]
    cases n with
    | zero => rfl
    | succ n => simp only [trL]; rw [if_neg h]
  intro _; refine ⟨fun g => ?_, fun g => ?_⟩
  rotate_left
  · have g := of_decide_eq_false (show decide ((l.length : Int) > 0) = false from g)
    have hd := done1 (fun h => by omega)
    intro _
    refine loop2 tt_ok [0] [] 0 (fun k : { p : Nat × List UInt8 // p.2.length ≤ p.1 ∧ p.1 ≤ 2000 ∧ trR p.1 p.2 = tr s } => [(0, .str k.1.2)]) (fun _ => []) (fun k => k.1.1) ⟨(2000, l), by have := trL_le 2000 s; rw [← hd] at this; have := hV.1; simp only []; omega, Nat.le_refl _, by rw [hd]; rfl⟩ ?_
    intro _
    refine ⟨⟨th [] 0, rfl, rfl, rfl, rfl, rfl, rfl, ?_, ?_⟩, ?_⟩
    · (repeat' first | exact trivial | exact rfl | refine And.intro ?_ ?_)
    · (repeat' first | exact trivial | exact rfl | refine And.intro ?_ ?_)
    intro ⟨⟨n, l⟩, hn, h2, ht⟩
    simp only [] at hn h2 ht
    have done2 : ¬ (0 < l.length ∧ by' l (l.length - 1) = 32) → TQ s = .tup [.str l, .int .i64 0] := fun h => by
      unfold TQ
      rw [if_pos hV, ← ht]
      cases n with
      | zero => rfl
      | succ n => simp only [trR]; rw [if_neg h]
    intro _; refine ⟨fun g => ?_, fun g => ?_⟩
    rotate_left
    · have g := of_decide_eq_false (show decide ((l.length : Int) > 0) = false from g)
      intro _
      exact ⟨(done2 (fun h => by omega)).symm, rfl⟩
    have g1 := of_decide_eq_true (show decide ((l.length : Int) > 0) = true from g)
    have eW : IntKind.i64.wrap ((l.length : Int) - 1) = ((l.length - 1 : Nat) : Int) := by rw [wrapS _ ⟨by omega, by have := hV.1; omega⟩]; omega
    intro _; refine ⟨show 0 ≤ IntKind.i64.wrap ((l.length : Int) - 1) ∧ IntKind.i64.wrap ((l.length : Int) - 1) < (l.length : Int) by rw [eW]; omega, ?_⟩
    intro _; refine ⟨fun g => ?_, fun g => ?_⟩
    rotate_left
    · have g : (by' l (IntKind.i64.wrap ((l.length : Int) - 1)).toNat == 32) = false := g
      rw [eW] at g
      have g : ¬ by' l (l.length - 1) = 32 := by simpa using g
      intro _
      exact ⟨(done2 (fun h => g h.2)).symm, rfl⟩
    have g : (by' l (IntKind.i64.wrap ((l.length : Int) - 1)).toNat == 32) = true := g
    rw [eW] at g
    have gz : by' l (l.length - 1) = 32 := by simpa using g
    intro _; refine ⟨show 0 ≤ (0 : Int) ∧ (0 : Int) ≤ IntKind.i64.wrap ((l.length : Int) - 1) ∧ IntKind.i64.wrap ((l.length : Int) - 1) ≤ (l.length : Int) by rw [eW]; omega, ?_⟩
    cases n with
    | zero => omega
    | succ n =>
      refine ⟨⟨(n, l.take (l.length - 1)), by simp; omega, by omega, ?_⟩, by simp, th [] 0, rfl, rfl, rfl, rfl, rfl, rfl, ?_, ?_⟩
      · rw [← ht]
        simp only [trR]
        rw [if_pos ⟨by omega, gz⟩]
      · (repeat' first | exact trivial | exact rfl | refine And.intro ?_ ?_)
        show l.take (l.length - 1) = (l.drop (0 : Int).toNat).take ((IntKind.i64.wrap ((l.length : Int) - 1)).toNat - (0 : Int).toNat)
        rw [cut_hi, eW]
        rfl
      · (repeat' first | exact trivial | exact rfl | refine And.intro ?_ ?_)
  have g1 := of_decide_eq_true (show decide ((l.length : Int) > 0) = true from g)
  intro _; refine ⟨show 0 ≤ (0 : Int) ∧ (0 : Int) < (l.length : Int) by omega, ?_⟩
  intro _; refine ⟨fun g => ?_, fun g => ?_⟩
  rotate_left
  · have g : (by' l 0 == 32) = false := g
    have g : ¬ by' l 0 = 32 := by simpa using g
    have hd := done1 (fun h => g h.2)
    intro _
    refine loop2 tt_ok [0] [] 0 (fun k : { p : Nat × List UInt8 // p.2.length ≤ p.1 ∧ p.1 ≤ 2000 ∧ trR p.1 p.2 = tr s } => [(0, .str k.1.2)]) (fun _ => []) (fun k => k.1.1) ⟨(2000, l), by have := trL_le 2000 s; rw [← hd] at this; have := hV.1; simp only []; omega, Nat.le_refl _, by rw [hd]; rfl⟩ ?_
    intro _
    refine ⟨⟨th [] 0, rfl, rfl, rfl, rfl, rfl, rfl, ?_, ?_⟩, ?_⟩
    · (repeat' first | exact trivial | exact rfl | refine And.intro ?_ ?_)
    · (repeat' first | exact trivial | exact rfl | refine And.intro ?_ ?_)
    intro ⟨⟨n, l⟩, hn, h2, ht⟩
    simp only [] at hn h2 ht
    have done2 : ¬ (0 < l.length ∧ by' l (l.length - 1) = 32) → TQ s = .tup [.str l, .int .i64 0] := fun h => by
      unfold TQ
      rw [if_pos hV, ← ht]
      cases n with
      | zero => rfl
      | succ n => simp only [trR]; rw [if_neg h]
    intro _; refine ⟨fun g => ?_, fun g => ?_⟩
    rotate_left
    · have g := of_decide_eq_false (show decide ((l.length : Int) > 0) = false from g)
      intro _
      exact ⟨(done2 (fun h => by omega)).symm, rfl⟩
    have g1 := of_decide_eq_true (show decide ((l.length : Int) > 0) = true from g)
    have eW : IntKind.i64.wrap ((l.length : Int) - 1) = ((l.length - 1 : Nat) : Int) := by rw [wrapS _ ⟨by omega, by have := hV.1; omega⟩]; omega
    intro _; refine ⟨show 0 ≤ IntKind.i64.wrap ((l.length : Int) - 1) ∧ IntKind.i64.wrap ((l.length : Int) - 1) < (l.length : Int) by rw [eW]; omega, ?_⟩
    intro _; refine ⟨fun g => ?_, fun g => ?_⟩
    rotate_left
    · have g : (by' l (IntKind.i64.wrap ((l.length : Int) - 1)).toNat == 32) = false := g
      rw [eW] at g
      have g : ¬ by' l (l.length - 1) = 32 := by simpa using g
      intro _
      exact ⟨(done2 (fun h => g h.2)).symm, rfl⟩
    have g : (by' l (IntKind.i64.wrap ((l.length : Int) - 1)).toNat == 32) = true := g
    rw [eW] at g
    have gz : by' l (l.length - 1) = 32 := by simpa using g
    intro _; refine ⟨show 0 ≤ (0 : Int) ∧ (0 : Int) ≤ IntKind.i64.wrap ((l.length : Int) - 1) ∧ IntKind.i64.wrap ((l.length : Int) - 1) ≤ (l.length : Int) by rw [eW]; omega, ?_⟩
    cases n with
    | zero => omega
    | succ n =>
      refine ⟨⟨(n, l.take (l.length - 1)), by simp; omega, by omega, ?_⟩, by simp, th [] 0, rfl, rfl, rfl, rfl, rfl, rfl, ?_, ?_⟩
      · rw [← ht]
        simp only [trR]
        rw [if_pos ⟨by omega, gz⟩]
      · (repeat' first | exact trivial | exact rfl | refine And.intro ?_ ?_)
        show l.take (l.length - 1) = (l.drop (0 : Int).toNat).take ((IntKind.i64.wrap ((l.length : Int) - 1)).toNat - (0 : Int).toNat)
        rw [cut_hi, eW]
        rfl
      · (repeat' first | exact trivial | exact rfl | refine And.intro ?_ ?_)
  have g : (by' l 0 == 32) = true := g
  have gz : by' l 0 = 32 := by simpa using g
  intro _; refine ⟨show 0 ≤ (1 : Int) ∧ (1 : Int) ≤ (l.length : Int) ∧ (l.length : Int) ≤ (l.length : Int) by omega, ?_⟩
  cases n with
  | zero => omega
  | succ n =>
    refine ⟨⟨(n, l.drop 1), by simp; omega, by omega, ?_⟩, by simp, th [] 0, rfl, rfl, rfl, rfl, rfl, rfl, ?_, ?_⟩
    · rw [← ht]
      simp only [trL]
      rw [if_pos ⟨by omega, gz⟩]
    · (repeat' first | exact trivial | exact rfl | refine And.intro ?_ ?_)
      exact (cut_lo l).symm
    · (repeat' first | exact trivial | exact rfl | refine And.intro ?_ ?_)
theorem Class_ok (n : Int) (h : 0 ≤ n ∧ n ≤ 255) : SemF Try.prog 24 [.int .u8 n] ⟨0, 0, []⟩ (fun v _ => v = .int .i64 (cl n) ∧ nameless v = true) := by
  refine enter tt_ok Try.func24 (nt := 6) (cd := body Try.f24) rfl rfl rfl rfl ?_
  intro _
  have e : IntKind.i32.wrap n = n := by
    rw [IntKind.wrap_i32]; omega
  refine call_pure [] (class_ok (IntKind.i32.wrap n)) rfl rfl rfl ?_ ?_ ?_
  · (repeat' first | exact trivial | exact rfl | refine And.intro ?_ ?_)
  · (repeat' first | exact trivial | exact rfl | refine And.intro ?_ ?_)
  intro v hv _
  subst hv
  intro _
  exact ⟨by rw [e], rfl⟩
set_option maxRecDepth 100000
theorem SemF.seen {fid : FuncId} {args : List V} {h : H} {K : V → H → Prop} (hs : SemF Try.prog fid args h (fun v h' => ∃ v', (∀ n ν a, Cv n ν v a → Cv n ν v' a) ∧ K v' h')) : SemF Try.prog fid args h K := by
  refine ⟨fun c ν s «as» r has => ?_⟩
  obtain ⟨N, a, s', v, h', ν', q1, ⟨v', hv, hk⟩, q3, q4, q5⟩ := hs.run c ν s «as» r has
  exact ⟨N, a, s', v', h', ν', q1, hk, q3, hv _ _ _ q4, q5⟩
theorem step_all {p : Nat → Prop} {i : Nat} (h : ∀ j, j < i → p j) (e : p i) : ∀ j, j < i + 1 → p j := fun j hj => by
  rcases Nat.lt_or_ge j i with q | q
  · exact h j q
  · have : j = i := by omega
    subst this; exact e
theorem by_range (s : List UInt8) (i : Nat) : 0 ≤ by' s i ∧ by' s i ≤ 255 := by
  unfold by'
  have := (s.getD i 0).toNat_lt
  omega
theorem cl_bd (n : Int) : 0 ≤ cl n ∧ cl n ≤ 6 := by unfold cl; (repeat' split) <;> omega
theorem cl_1 {n : Int} : cl n = 1 ↔ 97 ≤ n ∧ n ≤ 122 := by unfold cl; (repeat' split) <;> omega
theorem cl_6 {n : Int} : cl n = 6 ↔ n = 126 := by unfold cl; (repeat' split) <;> omega
theorem cl_4 {n : Int} : cl n = 4 ↔ n = 32 := by unfold cl; (repeat' split) <;> omega
/-! letters and digits -/
def isL (b : Int) : Prop := 1 ≤ cl b ∧ cl b ≤ 2
instance decL (b : Int) : Decidable (isL b) := inferInstanceAs (Decidable (_ ∧ _))
def isW (b : Int) : Prop := 1 ≤ cl b ∧ cl b ≤ 3
instance decW (b : Int) : Decidable (isW b) := inferInstanceAs (Decidable (_ ∧ _))
theorem isL_ok (b : Int) (h : 0 ≤ b ∧ b ≤ 255) : SemF Try.prog 35 [.int .u8 b] ⟨0, 0, []⟩ (fun v _ => v = .test (decide (isL b)) ∧ nameless v = true) := by
  refine SemF.test ?_
  refine enter tt_ok Try.func35 (nt := 11) (cd := body Try.f35) rfl rfl rfl rfl ?_
  intro _
  refine call_pure [] (Class_ok b h) rfl rfl rfl ?_ ?_ ?_
  · (repeat' first | exact trivial | exact rfl | refine And.intro ?_ ?_)
  · (repeat' first | exact trivial | exact rfl | refine And.intro ?_ ?_)
  intro v hv _
  subst hv
  intro _; refine ⟨fun g => ?_, fun g => ?_⟩
  · have g := of_decide_eq_true (show decide (cl b ≥ 1) = true from g)
    intro _
    refine call_pure [] (Class_ok b h) rfl rfl rfl ?_ ?_ ?_
    · (repeat' first | exact trivial | exact rfl | refine And.intro ?_ ?_)
    · (repeat' first | exact trivial | exact rfl | refine And.intro ?_ ?_)
    intro v hv _
    subst hv
    intro _
    refine ⟨decide (cl b ≤ 2), .inr rfl, ?_, rfl⟩
    congr 1
    exact decide_eq_decide.2 ⟨fun q => ⟨g, q⟩, fun q => q.2⟩
  have g := of_decide_eq_false (show decide (cl b ≥ 1) = false from g)
  intro _
  exact ⟨false, .inl rfl, by rw [decide_eq_false (fun q : isL b => g q.1)], rfl⟩
theorem isW_ok (b : Int) (h : 0 ≤ b ∧ b ≤ 255) : SemF Try.prog 34 [.int .u8 b] ⟨0, 0, []⟩ (fun v _ => v = .test (decide (isW b)) ∧ nameless v = true) := by
  refine SemF.test ?_
  refine enter tt_ok Try.func34 (nt := 11) (cd := body Try.f34) rfl rfl rfl rfl ?_
  intro _
  refine call_pure [] (Class_ok b h) rfl rfl rfl ?_ ?_ ?_
  · (repeat' first | exact trivial | exact rfl | refine And.intro ?_ ?_)
  · (repeat' first | exact trivial | exact rfl | refine And.intro ?_ ?_)
  intro v hv _
  subst hv
  intro _; refine ⟨fun g => ?_, fun g => ?_⟩
  · have g := of_decide_eq_true (show decide (cl b ≥ 1) = true from g)
    intro _
    refine call_pure [] (Class_ok b h) rfl rfl rfl ?_ ?_ ?_
    · (repeat' first | exact trivial | exact rfl | refine And.intro ?_ ?_)
    · (repeat' first | exact trivial | exact rfl | refine And.intro ?_ ?_)
    intro v hv _
    subst hv
    intro _
    refine ⟨decide (cl b ≤ 3), .inr rfl, ?_, rfl⟩
    congr 1
    exact decide_eq_decide.2 ⟨fun q => ⟨g, q⟩, fun q => q.2⟩
  have g := of_decide_eq_false (show decide (cl b ≥ 1) = false from g)
  intro _
  exact ⟨false, .inl rfl, by rw [decide_eq_false (fun q : isW b => g q.1)], rfl⟩
theorem rW_ok (b : Int) : SemF Try.prog 40 [.int .u8 b] ⟨0, 0, []⟩ (fun v _ => v = .test (decide (isW b)) ∧ nameless v = true) := by
  refine SemF.test ?_
  refine enter tt_ok Try.func40 (nt := 12) (cd := body Try.f40) rfl rfl rfl rfl ?_
  intro _
  refine call_pure [] (rclass_ok b) rfl rfl rfl ?_ ?_ ?_
  · (repeat' first | exact trivial | exact rfl | refine And.intro ?_ ?_)
  · (repeat' first | exact trivial | exact rfl | refine And.intro ?_ ?_)
  intro v hv _
  subst hv
  intro _; refine ⟨fun g => ?_, fun g => ?_⟩
  · have g := of_decide_eq_true (show decide (cl b ≥ 1) = true from g)
    intro _
    refine ⟨decide (cl b ≤ 3), .inr rfl, ?_, rfl⟩
    congr 1
    exact decide_eq_decide.2 ⟨fun q => ⟨g, q⟩, fun q => q.2⟩
  have g := of_decide_eq_false (show decide (cl b ≥ 1) = false from g)
  intro _
  exact ⟨false, .inl rfl, by rw [decide_eq_false (fun q : isW b => g q.1)], rfl⟩
theorem rL_ok (b : Int) : SemF Try.prog 41 [.int .u8 b] ⟨0, 0, []⟩ (fun v _ => v = .test (decide (isL b)) ∧ nameless v = true) := by
  refine SemF.test ?_
  refine enter tt_ok Try.func41 (nt := 12) (cd := body Try.f41) rfl rfl rfl rfl ?_
  intro _
  refine call_pure [] (rclass_ok b) rfl rfl rfl ?_ ?_ ?_
  · (repeat' first | exact trivial | exact rfl | refine And.intro ?_ ?_)
  · (repeat' first | exact trivial | exact rfl | refine And.intro ?_ ?_)
  intro v hv _
  subst hv
  intro _; refine ⟨fun g => ?_, fun g => ?_⟩
  · have g := eq_of_beq (show (cl b == 1) = true from g)
    intro _
    exact ⟨true, .inl rfl, by rw [decide_eq_true (show isL b from ⟨by omega, by omega⟩)], rfl⟩
  have g := beq_eq_false_iff_ne.1 (show (cl b == 1) = false from g)
  intro _
  refine ⟨(cl b == 2), .inr rfl, ?_, rfl⟩
  by_cases q : cl b = 2
  · rw [q, decide_eq_true (show isL b from ⟨by omega, by omega⟩)]; rfl
  · rw [beq_eq_false_iff_ne.2 q, decide_eq_false (fun w : isL b => by have := w.1; have := w.2; omega)]
/-- a run's letters -/
def fo (n b : Int) : Int := if isL b then n + 1 else if b = 126 then n else 0
theorem follow_ok (n b : Int) (h : 0 ≤ b ∧ b ≤ 255) (hn : 0 ≤ n ∧ n ≤ 1000000) : SemF Try.prog 37 [.int .i64 n, .int .u8 b] ⟨0, 0, []⟩ (fun v _ => v = .int .i64 (fo n b) ∧ nameless v = true) := by
  refine enter tt_ok Try.func37 (nt := 15) (cd := body Try.f37) rfl rfl rfl rfl ?_
  intro _
  refine call_pure [] (isL_ok b h) rfl rfl rfl ?_ ?_ ?_
  · (repeat' first | exact trivial | exact rfl | refine And.intro ?_ ?_)
  · (repeat' first | exact trivial | exact rfl | refine And.intro ?_ ?_)
  intro v hv _
  subst hv
  intro _; refine ⟨fun g => ?_, fun g => ?_⟩
  · have g := of_decide_eq_true (show decide (isL b) = true from g)
    intro _
    refine ⟨?_, rfl⟩
    unfold fo; rw [if_pos g]
    show V.int .i64 (IntKind.i64.wrap (n + 1)) = _
    rw [wrapS _ ⟨by omega, by omega⟩]
  have gL := of_decide_eq_false (show decide (isL b) = false from g)
  intro _
  refine call_pure [] (Class_ok b h) rfl rfl rfl ?_ ?_ ?_
  · (repeat' first | exact trivial | exact rfl | refine And.intro ?_ ?_)
  · (repeat' first | exact trivial | exact rfl | refine And.intro ?_ ?_)
  intro v hv _
  subst hv
  intro _; refine ⟨fun g => ?_, fun g => ?_⟩
  · have g2 := cl_6.1 (eq_of_beq (show (cl b == 6) = true from g))
    intro _
    refine ⟨?_, rfl⟩
    unfold fo; rw [if_neg gL, if_pos g2]
  have g2 : ¬ b = 126 := fun e => beq_eq_false_iff_ne.1 (show (cl b == 6) = false from g) (cl_6.2 e)
  intro _
  refine ⟨?_, rfl⟩
  unfold fo; rw [if_neg gL, if_neg g2]
/-! rules -/
abbrev LD := List (List D)
def kS (kp : LD) (i : Nat) : List UInt8 := ((kp.getD i []).getD 0 (.n 0)).str
def kG (k : List UInt8) : Prop := k.length = 2 ∧ (97 ≤ by' k 0 ∧ by' k 0 ≤ 122) ∧ (97 ≤ by' k 1 ∧ by' k 1 ≤ 122)
instance deckG (k : List UInt8) : Decidable (kG k) := inferInstanceAs (Decidable (_ ∧ _))
def KP (kp : LD) (i : Nat) : Prop := kG (kS kp i) ∧ ∀ j, j < i → kS kp j ≠ kS kp i
instance decKP (kp : LD) (i : Nat) : Decidable (KP kp i) := inferInstanceAs (Decidable (_ ∧ ∀ j, j < i → kS kp j ≠ kS kp i))
def bO (bf : Int) : Prop := 1 ≤ bf ∧ bf ≤ 5
instance decbO (bf : Int) : Decidable (bO bf) := inferInstanceAs (Decidable (_ ∧ _))
def VB (bf bh : Int) (kp : LD) : Prop := bO bf ∧ bO bh ∧ (kp.length : Int) ≤ 20 ∧ ∀ i, i < kp.length → KP kp i
instance decVB (bf bh : Int) (kp : LD) : Decidable (VB bf bh kp) := inferInstanceAs (Decidable (_ ∧ _ ∧ _ ∧ ∀ i, i < kp.length → KP kp i))
/-! a set of strings -/
theorem mfind_put {l : List (List UInt8 × List D)} {k k' : List UInt8} {d : List D} : mfindS (mputS l k d) k' = if k = k' then some d else mfindS l k' := by
  induction l with
  | nil => simp [mputS, mfindS]
  | cons e l ih =>
    simp only [mputS]
    by_cases h : e.1 = k
    · rw [if_pos h]
      simp only [mfindS]
      rw [h]
      by_cases q : k = k'
      · rw [if_pos q]
        simp [q]
      · simp [q]
    · rw [if_neg h]
      simp only [mfindS]
      rw [ih]
      by_cases q : e.1 = k'
      · rw [if_pos q]
        have : ¬ k = k' := fun w => h (q.trans w.symm)
        rw [if_neg this, if_pos q]
      · rw [if_neg q, if_neg q]
def SM (kp : LD) : Nat → List (List UInt8 × List D)
  | 0 => []
  | i + 1 => mputS (SM kp i) (kS kp i) [.b true]
def inS (kp : LD) (n : Nat) (k : List UInt8) : Prop := ∃ j, j < n ∧ kS kp j = k
theorem SM_in (kp : LD) (k : List UInt8) : ∀ n : Nat, ((((mfindS (SM kp n) k).getD [.b false]).getD 0 (.n 0)).bool = true ↔ inS kp n k)
  | 0 => by
    unfold SM mfindS inS
    simp [D.bool]
  | n + 1 => by
    have ih := SM_in kp k n
    unfold SM
    rw [mfind_put]
    unfold inS at ih ⊢
    by_cases h : kS kp n = k
    · rw [if_pos h]
      simp only [Option.getD_some]
      exact ⟨fun _ => ⟨n, by omega, h⟩, fun _ => rfl⟩
    · rw [if_neg h, ih]
      refine ⟨fun ⟨j, a, b⟩ => ⟨j, by omega, b⟩, fun ⟨j, a, b⟩ => ⟨j, ?_, b⟩⟩
      rcases Nat.lt_or_ge j n with q | q
      · exact q
      · have : j = n := by omega
        subst this; exact absurd b h
theorem Valid_ok (bf bh : Int) (kp : LD) : SemF Try.prog 12 [.agg [.int .i64 bf, .int .i64 bh, .slc 0 1 0 kp.length]] ⟨1, 1, [(0, .arr [.str] .rd (.recs kp))]⟩ (fun v _ => v = .test (decide (VB bf bh kp)) ∧ nameless v = true) := by
  refine SemF.test ?_
  refine enter tt_ok Try.func12 (nt := 61) (cd := body Try.f12) rfl rfl rfl rfl ?_
  have no : ¬ VB bf bh kp → ∃ b, (V.bool false = .bool b ∨ V.bool false = .test b) ∧ (V.test b = .test (decide (VB bf bh kp)) ∧ nameless (V.test b) = true) := fun hh => ⟨false, .inl rfl, by rw [decide_eq_false hh], rfl⟩
  intro _; refine ⟨fun g => ?_, fun g => ?_⟩
  · have g := of_decide_eq_true (show decide (bf < 1) = true from g)
    intro _
    exact no (fun h => by have := h.1.1; omega)
  have a1 := of_decide_eq_false (show decide (bf < 1) = false from g)
  intro _; refine ⟨fun g => ?_, fun g => ?_⟩
  · have g := of_decide_eq_true (show decide (bf > 5) = true from g)
    intro _
    exact no (fun h => by have := h.1.2; omega)
  have a2 := of_decide_eq_false (show decide (bf > 5) = false from g)
  intro _; refine ⟨fun g => ?_, fun g => ?_⟩
  · have g := of_decide_eq_true (show decide (bh < 1) = true from g)
    intro _
    exact no (fun h => by have := h.2.1.1; omega)
  have a3 := of_decide_eq_false (show decide (bh < 1) = false from g)
  intro _; refine ⟨fun g => ?_, fun g => ?_⟩
  · have g := of_decide_eq_true (show decide (bh > 5) = true from g)
    intro _
    exact no (fun h => by have := h.2.1.2; omega)
  have a4 := of_decide_eq_false (show decide (bh > 5) = false from g)
  intro _; refine ⟨fun g => ?_, fun g => ?_⟩
  · have g := of_decide_eq_true (show decide ((kp.length : Int) > 20) = true from g)
    intro _
    exact no (fun h => by have := h.2.2.1; omega)
  have a5 := of_decide_eq_false (show decide ((kp.length : Int) > 20) = false from g)
  intro _
  refine loop2 tt_ok [34] [2] 3 (fun i : { i : Nat // i ≤ kp.length ∧ ∀ j, j < i → KP kp j } => [(34, .int .i64 (i.1 : Nat))]) (fun i => [(2, .smap [.bool] false (SM kp i.1))]) (fun i => kp.length - i.1) ⟨0, by omega, fun j hj => by omega⟩ ?_
  intro _
  refine ⟨⟨th [] 3, rfl, rfl, rfl, rfl, rfl, rfl, ?_, ?_⟩, ?_⟩
  · (repeat' first | exact trivial | exact rfl | refine And.intro ?_ ?_)
  · (repeat' first | exact trivial | exact rfl | refine And.intro ?_ ?_)
  intro ⟨i, h1, h2⟩
  intro _; refine ⟨fun g => ?_, fun g => ?_⟩
  rotate_left
  · have hkl := of_decide_eq_false (show decide ((i : Int) < (kp.length : Int)) = false from g)
    intro _
    exact ⟨true, .inl rfl, by rw [decide_eq_true (show VB bf bh kp from ⟨⟨by omega, by omega⟩, ⟨by omega, by omega⟩, by omega, fun j hj => h2 j (by omega)⟩)], rfl⟩
  have hkl := of_decide_eq_true (show decide ((i : Int) < (kp.length : Int)) = true from g)
  have hil : i < kp.length := by omega
  have ei : 0 + (i : Int).toNat = i := by omega
  have no : ¬ KP kp i → ∃ b, (V.bool false = .bool b ∨ V.bool false = .test b) ∧ (V.test b = .test (decide (VB bf bh kp)) ∧ nameless (V.test b) = true) := fun hh => no (fun h => hh (h.2.2.2 i hil))
  intro _; refine ⟨show 0 ≤ (i : Int) ∧ (i : Int) < (kp.length : Int) by omega, ?_⟩
  intro _; refine ⟨show 0 + (i : Int).toNat < kp.length by omega, ?_⟩
  intro _; refine ⟨fun g => ?_, fun g => ?_⟩
  · have g : (((kS kp (0 + (i : Int).toNat)).length : Int) != 2) = true := g
    rw [ei, bne_iff_ne] at g
    intro _
    exact no (fun h => by have := h.1.1; omega)
  have b1 : (((kS kp (0 + (i : Int).toNat)).length : Int) != 2) = false := g
  have b1' := b1
  rw [ei, bne_eq_false_iff_eq] at b1'
  rw [bne_eq_false_iff_eq] at b1
  intro _; refine ⟨show 0 ≤ (0 : Int) ∧ (0 : Int) < ((kS kp (0 + (i : Int).toNat)).length : Int) by omega, ?_⟩
  intro _
  refine call_pure [] (Class_ok (by' (kS kp (0 + (i : Int).toNat)) (0 : Int).toNat) (by_range _ _)) rfl rfl rfl ?_ ?_ ?_
  · (repeat' first | exact trivial | exact rfl | refine And.intro ?_ ?_)
  · (repeat' first | exact trivial | exact rfl | refine And.intro ?_ ?_)
  intro v hv _
  subst hv
  intro _; refine ⟨fun g => ?_, fun g => ?_⟩
  · have g : (cl (by' (kS kp (0 + (i : Int).toNat)) (0 : Int).toNat) != 1) = true := g
    rw [ei, bne_iff_ne] at g
    intro _
    exact no (fun h => g (cl_1.2 h.1.2.1))
  have b2 : (cl (by' (kS kp (0 + (i : Int).toNat)) (0 : Int).toNat) != 1) = false := g
  rw [ei, bne_eq_false_iff_eq] at b2
  intro _; refine ⟨show 0 ≤ (1 : Int) ∧ (1 : Int) < ((kS kp (0 + (i : Int).toNat)).length : Int) by omega, ?_⟩
  intro _
  refine call_pure [] (Class_ok (by' (kS kp (0 + (i : Int).toNat)) (1 : Int).toNat) (by_range _ _)) rfl rfl rfl ?_ ?_ ?_
  · (repeat' first | exact trivial | exact rfl | refine And.intro ?_ ?_)
  · (repeat' first | exact trivial | exact rfl | refine And.intro ?_ ?_)
  intro v hv _
  subst hv
  intro _; refine ⟨fun g => ?_, fun g => ?_⟩
  · have g : (cl (by' (kS kp (0 + (i : Int).toNat)) (1 : Int).toNat) != 1) = true := g
    rw [ei, bne_iff_ne] at g
    intro _
    exact no (fun h => g (cl_1.2 h.1.2.2))
  have b3 : (cl (by' (kS kp (0 + (i : Int).toNat)) (1 : Int).toNat) != 1) = false := g
  rw [ei, bne_eq_false_iff_eq] at b3
  intro _; refine ⟨fun g => ?_, fun g => ?_⟩
  · have g : (((mfindS (SM kp i) (kS kp (0 + (i : Int).toNat))).getD [.b false]).getD 0 (.n 0)).bool = true := g
    rw [ei, SM_in] at g
    obtain ⟨j, g1, g2⟩ := g
    intro _
    exact no (fun h => h.2 j g1 g2)
  have b4 : ¬ (((mfindS (SM kp i) (kS kp (0 + (i : Int).toNat))).getD [.b false]).getD 0 (.n 0)).bool = true := Bool.eq_false_iff.1 g
  rw [ei, SM_in] at b4
  have hkp : KP kp i := ⟨⟨by omega, cl_1.1 b2, cl_1.1 b3⟩, fun j hj e => b4 ⟨j, hj, e⟩⟩
  refine ⟨⟨i + 1, by omega, step_all h2 hkp⟩, by simp only []; omega, th [] 3, rfl, rfl, rfl, rfl, rfl, rfl, ?_, ?_⟩
  · (repeat' first | exact trivial | exact rfl | refine And.intro ?_ ?_)
    exact (wrap_nat i (by omega)).symm
  · (repeat' first | exact trivial | exact rfl | refine And.intro ?_ ?_)
    exact (show mputS (SM kp i) (kS kp i) [.b true] = mputS (SM kp i) (kS kp (0 + (i : Int).toNat)) [.b true] by rw [ei])
theorem rValid_ok (bf bh : Int) (kp : LD) : SemF Try.prog 13 [.agg [.int .i64 bf, .int .i64 bh, .slc 0 1 0 kp.length]] ⟨1, 1, [(0, .arr [.str] .rd (.recs kp))]⟩ (fun v _ => v = .test (decide (VB bf bh kp)) ∧ nameless v = true) := by
  refine SemF.test ?_
  refine enter tt_ok Try.func13 (nt := 77) (cd := body Try.f13) rfl rfl rfl rfl ?_
  have no : ¬ VB bf bh kp → ∃ b, (V.bool false = .bool b ∨ V.bool false = .test b) ∧ (V.test b = .test (decide (VB bf bh kp)) ∧ nameless (V.test b) = true) := fun hh => ⟨false, .inl rfl, by rw [decide_eq_false hh], rfl⟩
  intro _; refine ⟨fun g => ?_, fun g => ?_⟩
  · have g := of_decide_eq_true (show decide (bf < 1) = true from g)
    intro _
    exact no (fun h => by have := h.1.1; omega)
  have a1 := of_decide_eq_false (show decide (bf < 1) = false from g)
  intro _; refine ⟨fun g => ?_, fun g => ?_⟩
  · have g := of_decide_eq_true (show decide (bf > 5) = true from g)
    intro _
    exact no (fun h => by have := h.1.2; omega)
  have a2 := of_decide_eq_false (show decide (bf > 5) = false from g)
  intro _; refine ⟨fun g => ?_, fun g => ?_⟩
  · have g := of_decide_eq_true (show decide (bh < 1) = true from g)
    intro _
    exact no (fun h => by have := h.2.1.1; omega)
  have a3 := of_decide_eq_false (show decide (bh < 1) = false from g)
  intro _; refine ⟨fun g => ?_, fun g => ?_⟩
  · have g := of_decide_eq_true (show decide (bh > 5) = true from g)
    intro _
    exact no (fun h => by have := h.2.1.2; omega)
  have a4 := of_decide_eq_false (show decide (bh > 5) = false from g)
  intro _; refine ⟨fun g => ?_, fun g => ?_⟩
  · have g := of_decide_eq_true (show decide ((kp.length : Int) > 20) = true from g)
    intro _
    exact no (fun h => by have := h.2.2.1; omega)
  have a5 := of_decide_eq_false (show decide ((kp.length : Int) > 20) = false from g)
  intro _
  refine loop2 tt_ok [3] [] 2 (fun i : { i : Nat // i ≤ kp.length ∧ ∀ j, j < i → KP kp j } => [(3, .int .i64 (i.1 : Nat))]) (fun i => []) (fun i => kp.length - i.1) ⟨0, by omega, fun j hj => by omega⟩ ?_
  intro _
  refine ⟨⟨th [] 2, rfl, rfl, rfl, rfl, rfl, rfl, ?_, ?_⟩, ?_⟩
  · (repeat' first | exact trivial | exact rfl | refine And.intro ?_ ?_)
  · (repeat' first | exact trivial | exact rfl | refine And.intro ?_ ?_)
  intro ⟨i, h1, h2⟩
  intro _; refine ⟨fun g => ?_, fun g => ?_⟩
  rotate_left
  · have hkl := of_decide_eq_false (show decide ((i : Int) < (kp.length : Int)) = false from g)
    intro _
    exact ⟨true, .inl rfl, by rw [decide_eq_true (show VB bf bh kp from ⟨⟨by omega, by omega⟩, ⟨by omega, by omega⟩, by omega, fun j hj => h2 j (by omega)⟩)], rfl⟩
  have hkl := of_decide_eq_true (show decide ((i : Int) < (kp.length : Int)) = true from g)
  have hil : i < kp.length := by omega
  have ei : 0 + (i : Int).toNat = i := by omega
  have no : ¬ KP kp i → ∃ b, (V.bool false = .bool b ∨ V.bool false = .test b) ∧ (V.test b = .test (decide (VB bf bh kp)) ∧ nameless (V.test b) = true) := fun hh => no (fun h => hh (h.2.2.2 i hil))
  intro _; refine ⟨show 0 ≤ (i : Int) ∧ (i : Int) < (kp.length : Int) by omega, ?_⟩
  intro _; refine ⟨show 0 + (i : Int).toNat < kp.length by omega, ?_⟩
  intro _; refine ⟨fun g => ?_, fun g => ?_⟩
  · have g : (((kS kp (0 + (i : Int).toNat)).length : Int) != 2) = true := g
    rw [ei, bne_iff_ne] at g
    intro _
    exact no (fun h => by have := h.1.1; omega)
  have b1 : (((kS kp (0 + (i : Int).toNat)).length : Int) != 2) = false := g
  have b1' := b1
  rw [ei, bne_eq_false_iff_eq] at b1'
  rw [bne_eq_false_iff_eq] at b1
  intro _; refine ⟨show 0 ≤ (0 : Int) ∧ (0 : Int) < ((kS kp (0 + (i : Int).toNat)).length : Int) by omega, ?_⟩
  intro _; refine ⟨fun g => ?_, fun g => ?_⟩
  · have g := of_decide_eq_true (show decide (by' (kS kp (0 + (i : Int).toNat)) (0 : Int).toNat < 97) = true from g)
    rw [ei] at g
    have g : by' (kS kp i) 0 < 97 := g
    intro _
    exact no (fun h => by have := h.1.2.1.1; omega)
  have c0 := of_decide_eq_false (show decide (by' (kS kp (0 + (i : Int).toNat)) (0 : Int).toNat < 97) = false from g)
  rw [ei] at c0
  have c0 : ¬ by' (kS kp i) 0 < 97 := c0
  intro _; refine ⟨show 0 ≤ (0 : Int) ∧ (0 : Int) < ((kS kp (0 + (i : Int).toNat)).length : Int) by omega, ?_⟩
  intro _; refine ⟨fun g => ?_, fun g => ?_⟩
  · have g := of_decide_eq_true (show decide (by' (kS kp (0 + (i : Int).toNat)) (0 : Int).toNat > 122) = true from g)
    rw [ei] at g
    have g : by' (kS kp i) 0 > 122 := g
    intro _
    exact no (fun h => by have := h.1.2.1.2; omega)
  have c1 := of_decide_eq_false (show decide (by' (kS kp (0 + (i : Int).toNat)) (0 : Int).toNat > 122) = false from g)
  rw [ei] at c1
  have c1 : ¬ by' (kS kp i) 0 > 122 := c1
  intro _; refine ⟨show 0 ≤ (1 : Int) ∧ (1 : Int) < ((kS kp (0 + (i : Int).toNat)).length : Int) by omega, ?_⟩
  intro _; refine ⟨fun g => ?_, fun g => ?_⟩
  · have g := of_decide_eq_true (show decide (by' (kS kp (0 + (i : Int).toNat)) (1 : Int).toNat < 97) = true from g)
    rw [ei] at g
    have g : by' (kS kp i) 1 < 97 := g
    intro _
    exact no (fun h => by have := h.1.2.2.1; omega)
  have c2 := of_decide_eq_false (show decide (by' (kS kp (0 + (i : Int).toNat)) (1 : Int).toNat < 97) = false from g)
  rw [ei] at c2
  have c2 : ¬ by' (kS kp i) 1 < 97 := c2
  intro _; refine ⟨show 0 ≤ (1 : Int) ∧ (1 : Int) < ((kS kp (0 + (i : Int).toNat)).length : Int) by omega, ?_⟩
  intro _; refine ⟨fun g => ?_, fun g => ?_⟩
  · have g := of_decide_eq_true (show decide (by' (kS kp (0 + (i : Int).toNat)) (1 : Int).toNat > 122) = true from g)
    rw [ei] at g
    have g : by' (kS kp i) 1 > 122 := g
    intro _
    exact no (fun h => by have := h.1.2.2.2; omega)
  have c3 := of_decide_eq_false (show decide (by' (kS kp (0 + (i : Int).toNat)) (1 : Int).toNat > 122) = false from g)
  rw [ei] at c3
  have c3 : ¬ by' (kS kp i) 1 > 122 := c3
  have hkg : kG (kS kp i) := ⟨by omega, ⟨by omega, by omega⟩, ⟨by omega, by omega⟩⟩
  intro _
  refine loop2 tt_ok [5] [] 2 (fun m : { m : Nat // m ≤ i ∧ ∀ j, j < m → kS kp j ≠ kS kp i } => [(5, .int .i64 (m.1 : Nat))]) (fun _ => []) (fun m => i - m.1) ⟨0, by omega, fun j hj => by omega⟩ ?_
  intro _
  refine ⟨⟨th [] 2, rfl, rfl, rfl, rfl, rfl, rfl, ?_, ?_⟩, ?_⟩
  · (repeat' first | exact trivial | exact rfl | refine And.intro ?_ ?_)
  · (repeat' first | exact trivial | exact rfl | refine And.intro ?_ ?_)
  intro ⟨m, h3, h4⟩
  intro _; refine ⟨fun g => ?_, fun g => ?_⟩
  rotate_left
  · have hml := of_decide_eq_false (show decide ((m : Int) < (i : Int)) = false from g)
    refine ⟨⟨i + 1, by omega, step_all h2 ⟨hkg, fun j hj => h4 j (by omega)⟩⟩, by simp only []; omega, th [] 2, rfl, rfl, rfl, rfl, rfl, rfl, ?_, ?_⟩
    · (repeat' first | exact trivial | exact rfl | refine And.intro ?_ ?_)
      exact (wrap_nat i (by omega)).symm
    · (repeat' first | exact trivial | exact rfl | refine And.intro ?_ ?_)
  have hml := of_decide_eq_true (show decide ((m : Int) < (i : Int)) = true from g)
  have em : 0 + (m : Int).toNat = m := by omega
  intro _; refine ⟨show 0 ≤ (m : Int) ∧ (m : Int) < (kp.length : Int) by omega, ?_⟩
  intro _; refine ⟨show 0 + (m : Int).toNat < kp.length by omega, ?_⟩
  intro _; refine ⟨fun g => ?_, fun g => ?_⟩
  · have g := eq_of_beq (show (kS kp (0 + (m : Int).toNat) == kS kp (0 + (i : Int).toNat)) = true from g)
    rw [ei, em] at g
    intro _
    exact no (fun h => h.2 m (by omega) g)
  have g : (kS kp (0 + (m : Int).toNat) == kS kp (0 + (i : Int).toNat)) = false := g
  rw [ei, em] at g
  have g := beq_eq_false_iff_ne.1 g
  refine ⟨⟨m + 1, by omega, step_all h4 g⟩, by simp only []; omega, th [] 2, rfl, rfl, rfl, rfl, rfl, rfl, ?_, ?_⟩
  · (repeat' first | exact trivial | exact rfl | refine And.intro ?_ ?_)
    exact (wrap_nat m (by omega)).symm
  · (repeat' first | exact trivial | exact rfl | refine And.intro ?_ ?_)
set_option maxRecDepth 100000
def mk (n : Nat) (f : Nat → Int) : List Int := (List.range n).map f
theorem mk_len (n : Nat) (f : Nat → Int) : (mk n f).length = n := by simp [mk]
theorem mk_get {n i : Nat} (f : Nat → Int) (h : i < n) : (mk n f).getD i 0 = f i := by
  unfold mk; rw [List.getD_eq_getElem?_getD, List.getElem?_map, List.getElem?_range h]; rfl
theorem mk_ext {n : Nat} {f g : Nat → Int} (h : ∀ i, i < n → f i = g i) : mk n f = mk n g := by
  unfold mk
  refine List.map_congr_left fun i hi => h i (List.mem_range.1 hi)
theorem mk_set {n i : Nat} (f : Nat → Int) (v : Int) (h : i < n) : (mk n f).set i v = mk n (fun j => if j = i then v else f j) := by
  refine List.ext_getElem (by simp [mk]) fun j h1 h2 => ?_
  rw [List.getElem_set]
  simp only [mk, List.getElem_map, List.getElem_range]
  by_cases e : i = j
  · rw [if_pos e, if_pos e.symm]
  · rw [if_neg e, if_neg (fun q => e q.symm)]
/-! letters before and behind -/
def BF (s : List UInt8) : Nat → Int
  | 0 => 0
  | m + 1 => fo (BF s m) (by' s m)
def FBk (s : List UInt8) : Nat → Int
  | 0 => 0
  | d + 1 => fo (FBk s d) (by' s (s.length - (d + 1)))
def FB (s : List UInt8) (j : Nat) : Int := FBk s (s.length - j)
theorem FB_end (s : List UInt8) {j : Nat} (h : s.length ≤ j) : FB s j = 0 := by
  unfold FB; rw [show s.length - j = 0 by omega]; rfl
theorem FB_step (s : List UInt8) {j : Nat} (h : j < s.length) : FB s j = fo (FB s (j + 1)) (by' s j) := by
  unfold FB
  have e : s.length - j = (s.length - (j + 1)) + 1 := by omega
  rw [e]
  show fo _ _ = _
  rw [show s.length - (s.length - (j + 1) + 1) = j by omega]
theorem fo_bd {n b : Int} (h : 0 ≤ n) : 0 ≤ fo n b ∧ fo n b ≤ n + 1 := by unfold fo; (repeat' split) <;> omega
theorem BF_bd (s : List UInt8) : ∀ m : Nat, 0 ≤ BF s m ∧ BF s m ≤ m
  | 0 => by simp [BF]
  | m + 1 => by
    have h := BF_bd s m
    have := fo_bd (n := BF s m) (b := by' s m) h.1
    simp only [BF]; omega
theorem FBk_bd (s : List UInt8) : ∀ m : Nat, 0 ≤ FBk s m ∧ FBk s m ≤ m
  | 0 => by simp [FBk]
  | m + 1 => by
    have h := FBk_bd s m
    have := fo_bd (n := FBk s m) (b := by' s (s.length - (m + 1))) h.1
    simp only [FBk]; omega
theorem FB_bd (s : List UInt8) (j : Nat) : 0 ≤ FB s j ∧ FB s j ≤ s.length := by
  have := FBk_bd s (s.length - j)
  unfold FB; omega
/-- the first letter of a run -/
def FYk (s : List UInt8) : Nat → Int
  | 0 => 0
  | d + 1 => if isL (by' s (s.length - (d + 1))) then by' s (s.length - (d + 1)) else if by' s (s.length - (d + 1)) = 126 then FYk s d else 0
def fy (s : List UInt8) (j : Nat) : Int := FYk s (s.length - j)
theorem fy_end (s : List UInt8) {j : Nat} (h : s.length ≤ j) : fy s j = 0 := by
  unfold fy; rw [show s.length - j = 0 by omega]; rfl
theorem fy_step (s : List UInt8) {j : Nat} (h : j < s.length) : fy s j = if isL (by' s j) then by' s j else if by' s j = 126 then fy s (j + 1) else 0 := by
  unfold fy
  have e : s.length - j = (s.length - (j + 1)) + 1 := by omega
  rw [e]
  show (if isL (by' s (s.length - (s.length - (j + 1) + 1))) then _ else _) = _
  rw [show s.length - (s.length - (j + 1) + 1) = j by omega]
/-- the first byte that is no soft hyphen -/
def flr : List UInt8 → Int
  | [] => 0
  | b :: l => if (b.toNat : Int) = 126 then flr l else (b.toNat : Int)
theorem drop_by {s : List UInt8} {j : Nat} (h : j < s.length) : s.drop j = s.getD j 0 :: s.drop (j + 1) := by
  rw [List.drop_eq_getElem_cons h, List.getD_eq_getElem?_getD, List.getElem?_eq_getElem h]; rfl
theorem flr_step {s : List UInt8} {j : Nat} (h : j < s.length) : flr (s.drop j) = if by' s j = 126 then flr (s.drop (j + 1)) else by' s j := by
  rw [drop_by h]; rfl
theorem notL126 : ¬ isL 126 := by unfold isL; decide
theorem flr_fy {s : List UInt8} : ∀ (d j : Nat), s.length - j ≤ d → 1 ≤ FB s j → flr (s.drop j) = fy s j
  | 0, j, hd, h => by rw [FB_end s (by omega)] at h; omega
  | d + 1, j, hd, h => by
    rcases Nat.lt_or_ge j s.length with q | q
    · rw [FB_step s q] at h
      rw [flr_step q, fy_step s q]
      unfold fo at h
      split at h
      · rename_i hL
        have : ¬ by' s j = 126 := fun e => by rw [e] at hL; exact notL126 hL
        rw [if_neg this, if_pos hL]
      · rename_i hL
        split at h
        · rename_i e
          rw [if_pos e, if_neg hL, if_pos e]
          exact flr_fy d (j + 1) (by omega) h
        · omega
    · rw [FB_end s q] at h; omega
def FF (s : List UInt8) (m : Nat) (j : Nat) : Int := if m ≤ j then FB s j else 0
theorem letters_ok (s : List UInt8) (hl : s.length ≤ 2000) : SemF Try.prog 33 [.str s] ⟨0, 0, []⟩ (fun v h' => v = .grw 0 (s.length + 1) ∧ h' = ⟨1, 0, [(0, .arr [.int .i64] .own (.ints (mk (s.length + 1) (FB s))))]⟩) := by
  refine SemF.ret ?_
  refine enter tt_ok Try.func33 (nt := 25) (cd := body Try.f33) rfl rfl rfl rfl ?_
  have e1 : IntKind.i64.wrap ((s.length : Int) + 1) = ((s.length + 1 : Nat) : Int) := wrap_nat _ (by omega)
  have e2 : (IntKind.i64.wrap ((s.length : Int) + 1)).toNat = s.length + 1 := by rw [e1]; omega
  intro _; refine ⟨by rw [e1]; omega, ?_⟩
  intro _; refine ⟨rfl, ?_⟩
  intro _
  refine loop2 tt_ok [5] [1, 2] 3 (fun m : { m : Nat // m ≤ s.length } => [(5, .int .i64 ((m.1 : Int) - 1))]) (fun m => [(1, .arr [.int .i64] .own (.ints (mk (s.length + 1) (FF s m.1)))), (2, .cells [.grw 1 (s.length + 1)])]) (fun m => m.1) ⟨s.length, by omega⟩ ?_
  intro _
  refine ⟨⟨th [] 3, rfl, rfl, rfl, rfl, rfl, rfl, ?_, ?_⟩, ?_⟩
  · (repeat' first | exact trivial | exact rfl | refine And.intro ?_ ?_)
    show ((s.length : Nat) : Int) - 1 = IntKind.i64.wrap ((s.length : Int) - 1)
    rw [wrapS _ ⟨by omega, by omega⟩]
  · (repeat' first | exact trivial | exact rfl | refine And.intro ?_ ?_)
    · show mk (s.length + 1) (FF s s.length) = List.replicate (IntKind.i64.wrap ((s.length : Int) + 1)).toNat 0
      rw [e2]
      refine List.ext_getElem (by simp [mk]) fun j h1 h2 => ?_
      simp only [mk, List.getElem_map, List.getElem_range, List.getElem_replicate]
      unfold FF
      split
      · rename_i q; exact FB_end s q
      · rfl
    · exact e2.symm
  intro ⟨m, hm⟩
  intro _; refine ⟨fun g => ?_, fun g => ?_⟩
  · have g := of_decide_eq_true (show decide ((m : Int) - 1 ≥ 0) = true from g)
    have hm1 : 1 ≤ m := by omega
    have ej : IntKind.i64.wrap ((m : Int) - 1 + 1) = (m : Int) := by rw [wrapS _ ⟨by omega, by omega⟩]; omega
    have ei : ((m : Int) - 1).toNat = m - 1 := by omega
    have eg : (mk (s.length + 1) (FF s m)).getD (IntKind.i64.wrap ((m : Int) - 1 + 1)).toNat 0 = FB s m := by
      rw [ej, Int.toNat_natCast, mk_get _ (by omega)]; unfold FF; rw [if_pos (Nat.le_refl _)]
    have hb := FB_bd s m
    have hL := mk_len (s.length + 1) (FF s m)
    intro _
    refine Or.inl ?_
    intro _
    refine enter tt_ok Try.func51 (nt := 14) (cd := body Try.f51) rfl rfl rfl rfl ?_
    intro _; refine ⟨by rw [ej]; omega, ?_⟩
    intro _; refine ⟨show (IntKind.i64.wrap ((m : Int) - 1 + 1)).toNat < (mk (s.length + 1) (FF s m)).length by rw [ej, hL]; omega, ?_⟩
    intro _; refine ⟨show 0 ≤ (m : Int) - 1 ∧ (m : Int) - 1 < (s.length : Int) by omega, ?_⟩
    intro _
    refine Or.inl ?_
    intro _
    refine call_pure [] (follow_ok ((mk (s.length + 1) (FF s m)).getD (IntKind.i64.wrap ((m : Int) - 1 + 1)).toNat 0) (by' s ((m : Int) - 1).toNat) (by_range _ _) (by rw [eg]; omega)) rfl rfl rfl ?_ ?_ ?_
    · (repeat' first | exact trivial | exact rfl | refine And.intro ?_ ?_)
    · (repeat' first | exact trivial | exact rfl | refine And.intro ?_ ?_)
    intro v hv _
    subst hv
    intro _; refine ⟨by kernel_rfl, ?_⟩
    intro _
    intro _; refine ⟨show 0 ≤ (m : Int) - 1 ∧ (m : Int) - 1 < ((s.length + 1 : Nat) : Int) by omega, ?_⟩
    intro _; refine ⟨show ((m : Int) - 1).toNat < (mk (s.length + 1) (FF s m)).length by rw [hL]; omega, ?_⟩
    intro _; refine ⟨by kernel_rfl, ?_⟩
    refine ⟨⟨m - 1, by omega⟩, by simp only []; omega, th [] 3, rfl, rfl, rfl, rfl, rfl, rfl, ?_, ?_⟩
    · (repeat' first | exact trivial | exact rfl | refine And.intro ?_ ?_)
      show ((m - 1 : Nat) : Int) - 1 = IntKind.i64.wrap ((m : Int) - 1 - 1)
      rw [wrapS _ ⟨by omega, by omega⟩]; omega
    · (repeat' first | exact trivial | exact rfl | refine And.intro ?_ ?_)
      show mk (s.length + 1) (FF s (m - 1)) = (mk (s.length + 1) (FF s m)).set ((m : Int) - 1).toNat (fo ((mk (s.length + 1) (FF s m)).getD (IntKind.i64.wrap ((m : Int) - 1 + 1)).toNat 0) (by' s ((m : Int) - 1).toNat))
      rw [eg, ei, mk_set _ _ (by omega)]
      refine mk_ext fun j hj => ?_
      unfold FF
      by_cases q : j = m - 1
      · subst q
        rw [if_pos (Nat.le_refl _), if_pos rfl, FB_step s (by omega), show m - 1 + 1 = m by omega]
      · rw [if_neg q]
        by_cases w : m ≤ j
        · rw [if_pos (by omega), if_pos w]
        · rw [if_neg (by omega), if_neg w]
  have g := of_decide_eq_false (show decide ((m : Int) - 1 ≥ 0) = false from g)
  have hm0 : m = 0 := by omega
  subst hm0
  intro _
  have eF : mk (s.length + 1) (FF s 0) = mk (s.length + 1) (FB s) := mk_ext fun j hj => by unfold FF; rw [if_pos (Nat.zero_le _)]
  refine ⟨[(0, some 1)], .grw 0 (s.length + 1), ⟨1, 0, [(0, .arr [.int .i64] .own (.ints (mk (s.length + 1) (FB s))))]⟩, rfl, rfl, rfl, rfl, ?_, ?_, ?_, ?_⟩
  · (repeat' first | exact trivial | exact rfl | refine And.intro ?_ ?_)
  · (repeat' first | exact trivial | exact rfl | refine And.intro ?_ ?_)
  · (repeat' first | exact trivial | exact rfl | refine And.intro ?_ ?_)
  · (repeat' first | exact trivial | exact rfl | refine And.intro ?_ ?_)
theorem first_ok (u : List UInt8) (hl : u.length ≤ 2000) : SemF Try.prog 36 [.str u] ⟨0, 0, []⟩ (fun v _ => v = .int .u8 (flr u) ∧ nameless v = true) := by
  refine enter tt_ok Try.func36 (nt := 17) (cd := body Try.f36) rfl rfl rfl rfl ?_
  intro _
  refine loop2 tt_ok [6] [] 0 (fun i : { i : Nat // i ≤ u.length ∧ flr (u.drop i) = flr u } => [(6, .int .i64 (i.1 : Nat))]) (fun _ => []) (fun i => u.length - i.1) ⟨0, by omega, rfl⟩ ?_
  intro _
  refine ⟨⟨th [] 0, rfl, rfl, rfl, rfl, rfl, rfl, ?_, ?_⟩, ?_⟩
  · (repeat' first | exact trivial | exact rfl | refine And.intro ?_ ?_)
  · (repeat' first | exact trivial | exact rfl | refine And.intro ?_ ?_)
  intro ⟨i, h1, h2⟩
  intro _; refine ⟨fun g => ?_, fun g => ?_⟩
  rotate_left
  · have g := of_decide_eq_false (show decide ((i : Int) < (u.length : Int)) = false from g)
    intro _
    refine ⟨?_, rfl⟩
    rw [← h2, List.drop_of_length_le (by omega)]; rfl
  have g := of_decide_eq_true (show decide ((i : Int) < (u.length : Int)) = true from g)
  have hs := flr_step (s := u) (j := i) (by omega)
  intro _; refine ⟨show 0 ≤ (i : Int) ∧ (i : Int) < (u.length : Int) by omega, ?_⟩
  intro _; refine ⟨fun g => ?_, fun g => ?_⟩
  · have g : (by' u i != 126) = true := g
    rw [bne_iff_ne] at g
    rw [if_neg g] at hs
    intro _; refine ⟨show 0 ≤ (i : Int) ∧ (i : Int) < (u.length : Int) by omega, ?_⟩
    intro _
    refine ⟨?_, rfl⟩
    exact congrArg (V.int .u8) (hs.symm.trans h2)
  have g : (by' u i != 126) = false := g
  rw [bne_eq_false_iff_eq] at g
  rw [if_pos g] at hs
  refine ⟨⟨i + 1, by omega, by rw [← hs]; exact h2⟩, by simp only []; omega, th [] 0, rfl, rfl, rfl, rfl, rfl, rfl, ?_, ?_⟩
  · (repeat' first | exact trivial | exact rfl | refine And.intro ?_ ?_)
    exact (wrap_nat i (by omega)).symm
  · (repeat' first | exact trivial | exact rfl | refine And.intro ?_ ?_)
/-! the reference's -/
def BG (s : List UInt8) (m : Nat) : Prop := ∃ j, j < m ∧ by' s j ≠ 32
instance decBG (s : List UInt8) (m : Nat) : Decidable (BG s m) := inferInstanceAs (Decidable (∃ j, j < m ∧ by' s j ≠ 32))
theorem some_ok (s : List UInt8) (m : Nat) (hm : m ≤ s.length) (hl : s.length ≤ 2000) : SemF Try.prog 39 [.str s, .int .i64 (m : Nat)] ⟨0, 0, []⟩ (fun v _ => v = .test (decide (BG s m)) ∧ nameless v = true) := by
  refine SemF.test ?_
  refine enter tt_ok Try.func39 (nt := 15) (cd := body Try.f39) rfl rfl rfl rfl ?_
  intro _
  refine loop2 tt_ok [5] [] 0 (fun i : { i : Nat // i ≤ m ∧ ∀ j, j < i → by' s j = 32 } => [(5, .int .i64 (i.1 : Nat))]) (fun _ => []) (fun i => m - i.1) ⟨0, by omega, fun j hj => by omega⟩ ?_
  intro _
  refine ⟨⟨th [] 0, rfl, rfl, rfl, rfl, rfl, rfl, ?_, ?_⟩, ?_⟩
  · (repeat' first | exact trivial | exact rfl | refine And.intro ?_ ?_)
  · (repeat' first | exact trivial | exact rfl | refine And.intro ?_ ?_)
  intro ⟨i, h1, h2⟩
  intro _; refine ⟨fun g => ?_, fun g => ?_⟩
  rotate_left
  · have g := of_decide_eq_false (show decide ((i : Int) < (m : Int)) = false from g)
    intro _
    exact ⟨false, .inl rfl, by rw [decide_eq_false (fun h : BG s m => by obtain ⟨j, a, b⟩ := h; exact b (h2 j (by omega)))], rfl⟩
  have g := of_decide_eq_true (show decide ((i : Int) < (m : Int)) = true from g)
  intro _; refine ⟨show 0 ≤ (i : Int) ∧ (i : Int) < (s.length : Int) by omega, ?_⟩
  intro _; refine ⟨fun g => ?_, fun g => ?_⟩
  · have g2 : (by' s i != 32) = true := g
    rw [bne_iff_ne] at g2
    intro _
    exact ⟨true, .inl rfl, by rw [decide_eq_true (show BG s m from ⟨i, by omega, g2⟩)], rfl⟩
  have g2 : (by' s i != 32) = false := g
  rw [bne_eq_false_iff_eq] at g2
  refine ⟨⟨i + 1, by omega, step_all h2 g2⟩, by simp only []; omega, th [] 0, rfl, rfl, rfl, rfl, rfl, rfl, ?_, ?_⟩
  · (repeat' first | exact trivial | exact rfl | refine And.intro ?_ ?_)
    exact (wrap_nat i (by omega)).symm
  · (repeat' first | exact trivial | exact rfl | refine And.intro ?_ ?_)
def inK (kp : LD) (x y : Int) : Prop := ∃ i, i < kp.length ∧ by' (kS kp i) 0 = x ∧ by' (kS kp i) 1 = y
instance decinK (kp : LD) (x y : Int) : Decidable (inK kp x y) := inferInstanceAs (Decidable (∃ i, i < kp.length ∧ _))
theorem kept_ok (bf bh : Int) (kp : LD) (x y : Int) (hV : VB bf bh kp) : SemF Try.prog 43 [.agg [.int .i64 bf, .int .i64 bh, .slc 0 1 0 kp.length], .int .u8 x, .int .u8 y] ⟨1, 1, [(0, .arr [.str] .rd (.recs kp))]⟩ (fun v _ => v = .test (decide (inK kp x y)) ∧ nameless v = true) := by
  have h20 := hV.2.2.1
  refine SemF.test ?_
  refine enter tt_ok Try.func43 (nt := 33) (cd := body Try.f43) rfl rfl rfl rfl ?_
  intro _
  refine loop2 tt_ok [7] [] 2 (fun i : { i : Nat // i ≤ kp.length ∧ ∀ j, j < i → ¬ (by' (kS kp j) 0 = x ∧ by' (kS kp j) 1 = y) } => [(7, .int .i64 (i.1 : Nat))]) (fun _ => []) (fun i => kp.length - i.1) ⟨0, by omega, fun j hj => by omega⟩ ?_
  intro _
  refine ⟨⟨th [] 2, rfl, rfl, rfl, rfl, rfl, rfl, ?_, ?_⟩, ?_⟩
  · (repeat' first | exact trivial | exact rfl | refine And.intro ?_ ?_)
  · (repeat' first | exact trivial | exact rfl | refine And.intro ?_ ?_)
  intro ⟨i, h1, h2⟩
  intro _; refine ⟨fun g => ?_, fun g => ?_⟩
  rotate_left
  · have g := of_decide_eq_false (show decide ((i : Int) < (kp.length : Int)) = false from g)
    intro _
    exact ⟨false, .inl rfl, by rw [decide_eq_false (fun h : inK kp x y => by obtain ⟨j, a, b⟩ := h; exact h2 j (by omega) b)], rfl⟩
  have g := of_decide_eq_true (show decide ((i : Int) < (kp.length : Int)) = true from g)
  have ei : 0 + (i : Int).toNat = i := by omega
  have hk2 := (hV.2.2.2 i (by omega)).1.1
  intro _; refine ⟨show 0 ≤ (i : Int) ∧ (i : Int) < (kp.length : Int) by omega, ?_⟩
  intro _; refine ⟨show 0 + (i : Int).toNat < kp.length by omega, ?_⟩
  intro _; refine ⟨show 0 ≤ (0 : Int) ∧ (0 : Int) < ((kS kp (0 + (i : Int).toNat)).length : Int) by rw [ei]; omega, ?_⟩
  intro _; refine ⟨fun g => ?_, fun g => ?_⟩
  · have g1 : by' (kS kp i) 0 = x := by
      have := eq_of_beq (show (by' (kS kp (0 + (i : Int).toNat)) (0 : Int).toNat == x) = true from g)
      rw [ei] at this; exact this
    intro _; refine ⟨show 0 ≤ (i : Int) ∧ (i : Int) < (kp.length : Int) by omega, ?_⟩
    intro _; refine ⟨show 0 + (i : Int).toNat < kp.length by omega, ?_⟩
    intro _; refine ⟨show 0 ≤ (1 : Int) ∧ (1 : Int) < ((kS kp (0 + (i : Int).toNat)).length : Int) by rw [ei]; omega, ?_⟩
    intro _; refine ⟨fun g => ?_, fun g => ?_⟩
    · have g2 : by' (kS kp i) 1 = y := by
        have := eq_of_beq (show (by' (kS kp (0 + (i : Int).toNat)) (1 : Int).toNat == y) = true from g)
        rw [ei] at this; exact this
      intro _
      exact ⟨true, .inl rfl, by rw [decide_eq_true (show inK kp x y from ⟨i, by omega, g1, g2⟩)], rfl⟩
    have g2 : ¬ by' (kS kp i) 1 = y := by
      have := beq_eq_false_iff_ne.1 (show (by' (kS kp (0 + (i : Int).toNat)) (1 : Int).toNat == y) = false from g)
      rw [ei] at this; exact this
    refine ⟨⟨i + 1, by omega, step_all h2 (fun q => g2 q.2)⟩, by simp only []; omega, th [] 2, rfl, rfl, rfl, rfl, rfl, rfl, ?_, ?_⟩
    · (repeat' first | exact trivial | exact rfl | refine And.intro ?_ ?_)
      exact (wrap_nat i (by omega)).symm
    · (repeat' first | exact trivial | exact rfl | refine And.intro ?_ ?_)
  have g1 : ¬ by' (kS kp i) 0 = x := by
    have := beq_eq_false_iff_ne.1 (show (by' (kS kp (0 + (i : Int).toNat)) (0 : Int).toNat == x) = false from g)
    rw [ei] at this; exact this
  refine ⟨⟨i + 1, by omega, step_all h2 (fun q => g1 q.1)⟩, by simp only []; omega, th [] 2, rfl, rfl, rfl, rfl, rfl, rfl, ?_, ?_⟩
  · (repeat' first | exact trivial | exact rfl | refine And.intro ?_ ?_)
    exact (wrap_nat i (by omega)).symm
  · (repeat' first | exact trivial | exact rfl | refine And.intro ?_ ?_)
set_option maxRecDepth 100000
theorem runF_ok (s : List UInt8) (a : Nat) (ha : a ≤ s.length) (hl : s.length ≤ 2000) : SemF Try.prog 42 [.str s, .int .i64 (a : Nat), .int .i64 1] ⟨0, 0, []⟩ (fun v _ => v = .tup [.int .i64 (FB s a), .int .u8 (fy s a)] ∧ nameless v = true) := by
  refine enter tt_ok Try.func42 (nt := 44) (cd := body Try.f42) rfl rfl rfl rfl ?_
  intro _
  refine loop2 tt_ok [1, 8, 9] [] 0 (fun q : { q : Nat × Int × Int // a ≤ q.1 ∧ q.1 ≤ s.length ∧ 0 ≤ q.2.1 ∧ q.2.1 ≤ q.1 ∧ q.2.1 + FB s q.1 = FB s a ∧ (q.2.1 = 0 → q.2.2 = 0 ∧ fy s q.1 = fy s a) ∧ (q.2.1 ≠ 0 → q.2.2 = fy s a) } => [(1, .int .i64 (q.1.1 : Nat)), (8, .int .i64 q.1.2.1), (9, .int .u8 q.1.2.2)]) (fun _ => []) (fun q => s.length - q.1.1) ⟨(a, 0, 0), by simp, ha, by simp, by simp, by simp, fun _ => ⟨rfl, rfl⟩, fun h => absurd rfl h⟩ ?_
  intro _
  refine ⟨⟨th [] 0, rfl, rfl, rfl, rfl, rfl, rfl, ?_, ?_⟩, ?_⟩
  · (repeat' first | exact trivial | exact rfl | refine And.intro ?_ ?_)
  · (repeat' first | exact trivial | exact rfl | refine And.intro ?_ ?_)
  intro ⟨⟨m, n, f⟩, h1, h2, h3, h4, h5, h6, h7⟩
  have h1 : a ≤ m := h1
  have h2 : m ≤ s.length := h2
  have h3 : 0 ≤ n := h3
  have h4 : n ≤ m := h4
  have h5 : n + FB s m = FB s a := h5
  have h6 : n = 0 → f = 0 ∧ fy s m = fy s a := h6
  have h7 : n ≠ 0 → f = fy s a := h7
  have done : FB s m = 0 → fy s m = 0 → V.tup [.int .i64 n, .int .u8 f] = .tup [.int .i64 (FB s a), .int .u8 (fy s a)] := fun e1 e2 => by
    have e3 : n = FB s a := by omega
    have e4 : f = fy s a := by
      by_cases q : n = 0
      · obtain ⟨x, y⟩ := h6 q; rw [x, ← y, e2]
      · exact h7 q
    rw [e3, e4]
  intro _; refine ⟨fun g => ?_, fun g => ?_⟩
  rotate_left
  · have g := of_decide_eq_false (show decide ((m : Int) ≥ 0) = false from g)
    omega
  intro _; refine ⟨fun g => ?_, fun g => ?_⟩
  rotate_left
  · have g := of_decide_eq_false (show decide ((m : Int) < (s.length : Int)) = false from g)
    intro _
    exact ⟨done (FB_end s (by omega)) (fy_end s (by omega)), rfl⟩
  have g := of_decide_eq_true (show decide ((m : Int) < (s.length : Int)) = true from g)
  have sB := FB_step s (j := m) (by omega)
  have sY := fy_step s (j := m) (by omega)
  have hb := FB_bd s (m + 1)
  have ew : IntKind.i64.wrap ((m : Int) + 1) = ((m + 1 : Nat) : Int) := wrap_nat m (by omega)
  intro _; refine ⟨show 0 ≤ (m : Int) ∧ (m : Int) < (s.length : Int) by omega, ?_⟩
  intro _
  refine call_pure [] (rL_ok (by' s (m : Int).toNat)) rfl rfl rfl ?_ ?_ ?_
  · (repeat' first | exact trivial | exact rfl | refine And.intro ?_ ?_)
  · (repeat' first | exact trivial | exact rfl | refine And.intro ?_ ?_)
  intro v hv _
  subst hv
  intro _; refine ⟨fun g => ?_, fun g => ?_⟩
  · have gL : ¬ isL (by' s m) := by
      have := show (!decide (isL (by' s m))) = true from g
      rw [Bool.not_eq_true'] at this; exact of_decide_eq_false this
    intro _; refine ⟨show 0 ≤ (m : Int) ∧ (m : Int) < (s.length : Int) by omega, ?_⟩
    intro _; refine ⟨fun g => ?_, fun g => ?_⟩
    · have g2 : ¬ by' s m = 126 := by
        have := show (by' s m != 126) = true from g
        rwa [bne_iff_ne] at this
      intro _
      refine ⟨done ?_ ?_, rfl⟩
      · rw [sB]; unfold fo; rw [if_neg gL, if_neg g2]
      · rw [sY, if_neg gL, if_neg g2]
    have g2 : by' s m = 126 := by
      have := show (by' s m != 126) = false from g
      rwa [bne_eq_false_iff_eq] at this
    intro _; refine ⟨fun g => ?_, fun g => ?_⟩
    · exact absurd (of_decide_eq_true (show decide (isL (by' s m)) = true from g)) gL
    refine ⟨⟨(m + 1, n, f), by show a ≤ m + 1; omega, by show m + 1 ≤ s.length; omega, h3, by show n ≤ ((m + 1 : Nat) : Int); omega, ?_, fun q => ?_, h7⟩, by simp only []; omega, th [] 0, rfl, rfl, rfl, rfl, rfl, rfl, ?_, ?_⟩
    · show n + FB s (m + 1) = FB s a
      unfold fo at sB; rw [if_neg gL, if_pos g2] at sB; omega
    · refine ⟨(h6 q).1, ?_⟩
      show fy s (m + 1) = fy s a
      rw [if_neg gL, if_pos g2] at sY
      rw [← sY]; exact (h6 q).2
    · (repeat' first | exact trivial | exact rfl | refine And.intro ?_ ?_)
      exact ew.symm
    · (repeat' first | exact trivial | exact rfl | refine And.intro ?_ ?_)
  have gL : isL (by' s m) := by
    have := show (!decide (isL (by' s m))) = false from g
    rw [Bool.not_eq_false'] at this; exact of_decide_eq_true this
  intro _; refine ⟨fun g => ?_, fun g => ?_⟩
  rotate_left
  · exact absurd gL (of_decide_eq_false (show decide (isL (by' s m)) = false from g))
  have sB : FB s m = FB s (m + 1) + 1 := by rw [sB]; unfold fo; rw [if_pos gL]
  rw [if_pos gL] at sY
  have ew2 : IntKind.i64.wrap (n + 1) = n + 1 := wrapS _ ⟨by omega, by omega⟩
  intro _; refine ⟨fun g => ?_, fun g => ?_⟩
  · have g0 := eq_of_beq (show (n == 0) = true from g)
    intro _; refine ⟨show 0 ≤ (m : Int) ∧ (m : Int) < (s.length : Int) by omega, ?_⟩
    refine ⟨⟨(m + 1, n + 1, by' s m), by show a ≤ m + 1; omega, by show m + 1 ≤ s.length; omega, by show 0 ≤ n + 1; omega, by show n + 1 ≤ ((m + 1 : Nat) : Int); omega, ?_, fun q => ?_, fun q => ?_⟩, by simp only []; omega, th [] 0, rfl, rfl, rfl, rfl, rfl, rfl, ?_, ?_⟩
    · show n + 1 + FB s (m + 1) = FB s a; omega
    · have q : n + 1 = 0 := q
      omega
    · show by' s m = fy s a
      rw [← sY]; exact (h6 g0).2
    · (repeat' first | exact trivial | exact rfl | refine And.intro ?_ ?_)
      · exact ew.symm
      · exact ew2.symm
    · (repeat' first | exact trivial | exact rfl | refine And.intro ?_ ?_)
  have g0 := beq_eq_false_iff_ne.1 (show (n == 0) = false from g)
  refine ⟨⟨(m + 1, n + 1, f), by show a ≤ m + 1; omega, by show m + 1 ≤ s.length; omega, by show 0 ≤ n + 1; omega, by show n + 1 ≤ ((m + 1 : Nat) : Int); omega, ?_, fun q => ?_, fun q => h7 g0⟩, by simp only []; omega, th [] 0, rfl, rfl, rfl, rfl, rfl, rfl, ?_, ?_⟩
  · show n + 1 + FB s (m + 1) = FB s a; omega
  · have q : n + 1 = 0 := q
    omega
  · (repeat' first | exact trivial | exact rfl | refine And.intro ?_ ?_)
    · exact ew.symm
    · exact ew2.symm
  · (repeat' first | exact trivial | exact rfl | refine And.intro ?_ ?_)
theorem runB_ok (s : List UInt8) (j : Nat) (hj : j < s.length) (hl : s.length ≤ 2000) (hL : isL (by' s j)) (z : Int) (hz : z = (j : Int)) : SemF Try.prog 42 [.str s, .int .i64 z, .int .i64 (-1)] ⟨0, 0, []⟩ (fun v _ => v = .tup [.int .i64 (BF s (j + 1)), .int .u8 (by' s j)] ∧ nameless v = true) := by
  refine enter tt_ok Try.func42 (nt := 44) (cd := body Try.f42) rfl rfl rfl rfl ?_
  intro _
  refine loop2 tt_ok [1, 8, 9] [] 0 (fun q : { q : Nat × Int × Int // q.1 ≤ j + 1 ∧ 0 ≤ q.2.1 ∧ q.2.1 ≤ j + 1 - q.1 ∧ q.2.1 + BF s q.1 = BF s (j + 1) ∧ ((q.2.1 = 0 ∧ q.1 = j + 1 ∧ q.2.2 = 0) ∨ (1 ≤ q.2.1 ∧ q.2.2 = by' s j)) } => [(1, .int .i64 ((q.1.1 : Int) - 1)), (8, .int .i64 q.1.2.1), (9, .int .u8 q.1.2.2)]) (fun _ => []) (fun q => q.1.1) ⟨(j + 1, 0, 0), by simp, by simp, by simp, by simp, .inl ⟨rfl, rfl, rfl⟩⟩ ?_
  intro _
  refine ⟨⟨th [] 0, rfl, rfl, rfl, rfl, rfl, rfl, ?_, ?_⟩, ?_⟩
  · (repeat' first | exact trivial | exact rfl | refine And.intro ?_ ?_)
    show ((j + 1 : Nat) : Int) - 1 = z
    omega
  · (repeat' first | exact trivial | exact rfl | refine And.intro ?_ ?_)
  intro ⟨⟨m, n, f⟩, h1, h3, h4, h5, h6⟩
  have h1 : m ≤ j + 1 := h1
  have h3 : 0 ≤ n := h3
  have h4 : n ≤ j + 1 - m := h4
  have h5 : n + BF s m = BF s (j + 1) := h5
  have h6 : (n = 0 ∧ m = j + 1 ∧ f = 0) ∨ (1 ≤ n ∧ f = by' s j) := h6
  have done : BF s m = 0 → 1 ≤ n → V.tup [.int .i64 n, .int .u8 f] = .tup [.int .i64 (BF s (j + 1)), .int .u8 (by' s j)] := fun e1 e2 => by
    have e3 : n = BF s (j + 1) := by omega
    have e4 : f = by' s j := by
      rcases h6 with ⟨q, _⟩ | ⟨_, q⟩
      · omega
      · exact q
    rw [e3, e4]
  intro _; refine ⟨fun g => ?_, fun g => ?_⟩
  rotate_left
  · have g := of_decide_eq_false (show decide ((m : Int) - 1 ≥ 0) = false from g)
    have hm0 : m = 0 := by omega
    intro _
    refine ⟨done (by rw [hm0]; rfl) ?_, rfl⟩
    rcases h6 with ⟨_, q, _⟩ | ⟨q, _⟩
    · omega
    · exact q
  have g0 := of_decide_eq_true (show decide ((m : Int) - 1 ≥ 0) = true from g)
  intro _; refine ⟨fun g => ?_, fun g => ?_⟩
  rotate_left
  · have g := of_decide_eq_false (show decide ((m : Int) - 1 < (s.length : Int)) = false from g)
    omega
  have ei : ((m : Int) - 1).toNat = m - 1 := by omega
  have sB : BF s m = fo (BF s (m - 1)) (by' s (m - 1)) := by
    obtain ⟨q, rfl⟩ : ∃ q, m = q + 1 := ⟨m - 1, by omega⟩
    rfl
  have hb := BF_bd s (m - 1)
  have ew : IntKind.i64.wrap ((m : Int) - 1 + -1) = ((m - 1 : Nat) : Int) - 1 := by rw [wrapS _ ⟨by omega, by omega⟩]; omega
  have hne : ¬ isL (by' s (m - 1)) → 1 ≤ n := fun q => by
    rcases h6 with ⟨_, w, _⟩ | ⟨w, _⟩
    · exact absurd hL (by rw [show m - 1 = j by omega] at q; exact q)
    · exact w
  intro _; refine ⟨show 0 ≤ (m : Int) - 1 ∧ (m : Int) - 1 < (s.length : Int) by omega, ?_⟩
  intro _
  refine call_pure [] (rL_ok (by' s ((m : Int) - 1).toNat)) rfl rfl rfl ?_ ?_ ?_
  · (repeat' first | exact trivial | exact rfl | refine And.intro ?_ ?_)
  · (repeat' first | exact trivial | exact rfl | refine And.intro ?_ ?_)
  intro v hv _
  subst hv
  intro _; refine ⟨fun g => ?_, fun g => ?_⟩
  · have gL : ¬ isL (by' s (m - 1)) := by
      have := show (!decide (isL (by' s ((m : Int) - 1).toNat))) = true from g
      rw [Bool.not_eq_true', ei] at this; exact of_decide_eq_false this
    intro _; refine ⟨show 0 ≤ (m : Int) - 1 ∧ (m : Int) - 1 < (s.length : Int) by omega, ?_⟩
    intro _; refine ⟨fun g => ?_, fun g => ?_⟩
    · have g2 : ¬ by' s (m - 1) = 126 := by
        have := show (by' s ((m : Int) - 1).toNat != 126) = true from g
        rwa [bne_iff_ne, ei] at this
      intro _
      refine ⟨done ?_ (hne gL), rfl⟩
      rw [sB]; unfold fo; rw [if_neg gL, if_neg g2]
    have g2 : by' s (m - 1) = 126 := by
      have := show (by' s ((m : Int) - 1).toNat != 126) = false from g
      rwa [bne_eq_false_iff_eq, ei] at this
    intro _; refine ⟨fun g => ?_, fun g => ?_⟩
    · exact absurd (by have := of_decide_eq_true (show decide (isL (by' s ((m : Int) - 1).toNat)) = true from g); rwa [ei] at this) gL
    have h1n := hne gL
    refine ⟨⟨(m - 1, n, f), by show m - 1 ≤ j + 1; omega, h3, by show n ≤ j + 1 - ((m - 1 : Nat) : Int); omega, ?_, .inr ⟨h1n, ?_⟩⟩, by simp only []; omega, th [] 0, rfl, rfl, rfl, rfl, rfl, rfl, ?_, ?_⟩
    · show n + BF s (m - 1) = BF s (j + 1)
      unfold fo at sB; rw [if_neg gL, if_pos g2] at sB; omega
    · rcases h6 with ⟨q, _⟩ | ⟨_, q⟩
      · omega
      · exact q
    · (repeat' first | exact trivial | exact rfl | refine And.intro ?_ ?_)
      exact ew.symm
    · (repeat' first | exact trivial | exact rfl | refine And.intro ?_ ?_)
  have gL : isL (by' s (m - 1)) := by
    have := show (!decide (isL (by' s ((m : Int) - 1).toNat))) = false from g
    rw [Bool.not_eq_false', ei] at this; exact of_decide_eq_true this
  intro _; refine ⟨fun g => ?_, fun g => ?_⟩
  rotate_left
  · exact absurd gL (by have := of_decide_eq_false (show decide (isL (by' s ((m : Int) - 1).toNat)) = false from g); rwa [ei] at this)
  have sB : BF s m = BF s (m - 1) + 1 := by rw [sB]; unfold fo; rw [if_pos gL]
  have ew2 : IntKind.i64.wrap (n + 1) = n + 1 := wrapS _ ⟨by omega, by omega⟩
  intro _; refine ⟨fun g => ?_, fun g => ?_⟩
  · have g0 := eq_of_beq (show (n == 0) = true from g)
    intro _; refine ⟨show 0 ≤ (m : Int) - 1 ∧ (m : Int) - 1 < (s.length : Int) by omega, ?_⟩
    refine ⟨⟨(m - 1, n + 1, by' s (m - 1)), by show m - 1 ≤ j + 1; omega, by show 0 ≤ n + 1; omega, by show n + 1 ≤ j + 1 - ((m - 1 : Nat) : Int); omega, ?_, .inr ⟨by show 1 ≤ n + 1; omega, ?_⟩⟩, by simp only []; omega, th [] 0, rfl, rfl, rfl, rfl, rfl, rfl, ?_, ?_⟩
    · show n + 1 + BF s (m - 1) = BF s (j + 1); omega
    · show by' s (m - 1) = by' s j
      rcases h6 with ⟨_, q, _⟩ | ⟨q, _⟩
      · rw [show m - 1 = j by omega]
      · omega
    · (repeat' first | exact trivial | exact rfl | refine And.intro ?_ ?_)
      · exact ew.symm
      · exact ew2.symm
      · exact (show by' s (m - 1) = by' s ((m : Int) - 1).toNat by rw [ei])
    · (repeat' first | exact trivial | exact rfl | refine And.intro ?_ ?_)
  have g0 := beq_eq_false_iff_ne.1 (show (n == 0) = false from g)
  refine ⟨⟨(m - 1, n + 1, f), by show m - 1 ≤ j + 1; omega, by show 0 ≤ n + 1; omega, by show n + 1 ≤ j + 1 - ((m - 1 : Nat) : Int); omega, ?_, .inr ⟨by show 1 ≤ n + 1; omega, ?_⟩⟩, by simp only []; omega, th [] 0, rfl, rfl, rfl, rfl, rfl, rfl, ?_, ?_⟩
  · show n + 1 + BF s (m - 1) = BF s (j + 1); omega
  · rcases h6 with ⟨q, _⟩ | ⟨_, q⟩
    · omega
    · exact q
  · (repeat' first | exact trivial | exact rfl | refine And.intro ?_ ?_)
    · exact ew.symm
    · exact ew2.symm
  · (repeat' first | exact trivial | exact rfl | refine And.intro ?_ ?_)
/-! places -/
def PL (bf bh : Int) (kp : LD) (s : List UInt8) (a : Nat) : Prop :=
  (by' s (a - 1) = 32 ∧ BG s (a - 1) ∧ by' s a ≠ 32) ∨ (by' s (a - 1) = 45 ∧ 2 ≤ a ∧ isW (by' s (a - 2)) ∧ isW (by' s a)) ∨
  (by' s (a - 1) = 126 ∧ 2 ≤ a ∧ isL (by' s (a - 2)) ∧ bf ≤ BF s (a - 1) ∧ bh ≤ FB s a ∧ ¬ inK kp (by' s (a - 2)) (fy s a))
instance decPL (bf bh : Int) (kp : LD) (s : List UInt8) (a : Nat) : Decidable (PL bf bh kp s a) := inferInstanceAs (Decidable (_ ∨ _ ∨ _))
def HY (s : List UInt8) (a : Nat) : Prop := by' s (a - 1) = 126
instance decHY (s : List UInt8) (a : Nat) : Decidable (HY s a) := inferInstanceAs (Decidable (_ = _))
theorem PL32 {bf bh : Int} {kp : LD} {s : List UInt8} {a : Nat} (h : by' s (a - 1) = 32) : PL bf bh kp s a ↔ BG s (a - 1) ∧ by' s a ≠ 32 := by
  unfold PL
  rw [h]
  exact ⟨fun q => by rcases q with q | q | q <;> first | exact q.2 | omega, fun q => .inl ⟨rfl, q⟩⟩
theorem PL45 {bf bh : Int} {kp : LD} {s : List UInt8} {a : Nat} (h : by' s (a - 1) = 45) : PL bf bh kp s a ↔ 2 ≤ a ∧ isW (by' s (a - 2)) ∧ isW (by' s a) := by
  unfold PL
  rw [h]
  exact ⟨fun q => by rcases q with q | q | q <;> first | exact q.2 | omega, fun q => .inr (.inl ⟨rfl, q⟩)⟩
theorem PL126 {bf bh : Int} {kp : LD} {s : List UInt8} {a : Nat} (h : by' s (a - 1) = 126) : PL bf bh kp s a ↔ 2 ≤ a ∧ isL (by' s (a - 2)) ∧ bf ≤ BF s (a - 1) ∧ bh ≤ FB s a ∧ ¬ inK kp (by' s (a - 2)) (fy s a) := by
  unfold PL
  rw [h]
  exact ⟨fun q => by rcases q with q | q | q <;> first | exact q.2 | omega, fun q => .inr (.inr ⟨rfl, q⟩)⟩
theorem PLno {bf bh : Int} {kp : LD} {s : List UInt8} {a : Nat} (h1 : by' s (a - 1) ≠ 32) (h2 : by' s (a - 1) ≠ 45) (h3 : by' s (a - 1) ≠ 126) : ¬ PL bf bh kp s a := fun q => by
  rcases q with q | q | q
  · exact h1 q.1
  · exact h2 q.1
  · exact h3 q.1
theorem BG_last {s : List UInt8} {a : Nat} (h : by' s (a - 1) = 32) : BG s a ↔ BG s (a - 1) := by
  refine ⟨fun ⟨j, x, y⟩ => ⟨j, ?_, y⟩, fun ⟨j, x, y⟩ => ⟨j, by omega, y⟩⟩
  rcases Nat.lt_or_ge j (a - 1) with q | q
  · exact q
  · have : j = a - 1 := by omega
    subst this; exact absurd h y
theorem cv2 {x y : V} {b1 b2 : Bool} (h1 : x = .bool b1 ∨ x = .test b1) (h2 : y = .bool b2 ∨ y = .test b2) : ∀ n ν a, Cv n ν (.tup [x, y]) a → Cv n ν (.tup [.test b1, .test b2]) a := by
  intro n ν a h
  rcases h1 with rfl | rfl <;> rcases h2 with rfl | rfl <;> simpa only [Cv, Cvs] using h
set_option maxHeartbeats 1000000 in
theorem place_ok (bf bh : Int) (kp : LD) (s : List UInt8) (a : Nat) (hV : VB bf bh kp) (h1 : 1 ≤ a) (ha : a < s.length) (hl : s.length ≤ 2000) : SemF Try.prog 23 [.agg [.int .i64 bf, .int .i64 bh, .slc 0 1 0 kp.length], .str s, .int .i64 (a : Nat)] ⟨1, 1, [(0, .arr [.str] .rd (.recs kp))]⟩ (fun v _ => v = .tup [.test (decide (PL bf bh kp s a)), .test (decide (PL bf bh kp s a ∧ HY s a))] ∧ nameless v = true) := by
  refine SemF.seen ?_
  refine enter tt_ok Try.func23 (nt := 93) (cd := body Try.f23) rfl rfl rfl rfl ?_
  have e1 : IntKind.i64.wrap ((a : Int) - 1) = ((a - 1 : Nat) : Int) := by rw [wrapS _ ⟨by omega, by omega⟩]; omega
  have e1' : (IntKind.i64.wrap ((a : Int) - 1)).toNat = a - 1 := by rw [e1]; omega
  have no : ¬ PL bf bh kp s a → ∃ v' : V, (∀ n ν x, Cv n ν (.tup [.bool false, .bool false]) x → Cv n ν v' x) ∧ v' = .tup [.test (decide (PL bf bh kp s a)), .test (decide (PL bf bh kp s a ∧ HY s a))] ∧ nameless v' = true := fun h => ⟨_, cv2 (.inl rfl) (.inl rfl), by rw [decide_eq_false h, decide_eq_false (fun q => h q.1)], rfl⟩
  intro _; refine ⟨by rw [e1]; omega, ?_⟩
  intro _; refine ⟨fun g => ?_, fun g => ?_⟩
  · have g1 : by' s (a - 1) = 32 := by
      have := eq_of_beq (show (by' s (IntKind.i64.wrap ((a : Int) - 1)).toNat == 32) = true from g)
      rwa [e1'] at this
    have hH : ¬ HY s a := by unfold HY; omega
    intro _
    refine call_pure [] (some_ok s a (by omega) hl) rfl rfl rfl ?_ ?_ ?_
    · (repeat' first | exact trivial | exact rfl | refine And.intro ?_ ?_)
    · (repeat' first | exact trivial | exact rfl | refine And.intro ?_ ?_)
    intro v hv _
    subst hv
    intro _; refine ⟨show 0 ≤ (a : Int) ∧ (a : Int) < (s.length : Int) by omega, ?_⟩
    intro _; refine ⟨fun g => ?_, fun g => ?_⟩
    · have g2 : by' s a ≠ 32 := by
        have := show (by' s a != 32) = true from g
        rwa [bne_iff_ne] at this
      intro _
      refine ⟨_, cv2 (b1 := decide (BG s a)) (b2 := false) (.inr rfl) (.inl rfl), ?_, rfl⟩
      rw [decide_eq_false (fun q : PL bf bh kp s a ∧ HY s a => hH q.2)]
      rw [decide_eq_decide.2 (show BG s a ↔ PL bf bh kp s a from by rw [PL32 g1, BG_last g1]; exact ⟨fun q => ⟨q, g2⟩, fun q => q.1⟩)]
    have g2 : by' s a = 32 := by
      have := show (by' s a != 32) = false from g
      rwa [bne_eq_false_iff_eq] at this
    intro _
    exact no (fun q => ((PL32 g1).1 q).2 g2)
  have g1 : ¬ by' s (a - 1) = 32 := by
    have := beq_eq_false_iff_ne.1 (show (by' s (IntKind.i64.wrap ((a : Int) - 1)).toNat == 32) = false from g)
    rwa [e1'] at this
  intro _; refine ⟨fun g => ?_, fun g => ?_⟩
  · have g2 : by' s (a - 1) = 45 := by
      have := eq_of_beq (show (by' s (IntKind.i64.wrap ((a : Int) - 1)).toNat == 45) = true from g)
      rwa [e1'] at this
    have hH : ¬ HY s a := by unfold HY; omega
    intro _; refine ⟨fun g => ?_, fun g => ?_⟩
    · have g3 := of_decide_eq_true (show decide ((a : Int) < 2) = true from g)
      intro _
      exact no (fun q => by have := ((PL45 g2).1 q).1; omega)
    have g3 := of_decide_eq_false (show decide ((a : Int) < 2) = false from g)
    have e2 : IntKind.i64.wrap ((a : Int) - 2) = ((a - 2 : Nat) : Int) := by rw [wrapS _ ⟨by omega, by omega⟩]; omega
    have e2' : (IntKind.i64.wrap ((a : Int) - 2)).toNat = a - 2 := by rw [e2]; omega
    intro _; refine ⟨by rw [e2]; omega, ?_⟩
    intro _
    refine call_pure [] (rW_ok (by' s (IntKind.i64.wrap ((a : Int) - 2)).toNat)) rfl rfl rfl ?_ ?_ ?_
    · (repeat' first | exact trivial | exact rfl | refine And.intro ?_ ?_)
    · (repeat' first | exact trivial | exact rfl | refine And.intro ?_ ?_)
    intro v hv _
    subst hv
    intro _; refine ⟨show 0 ≤ (a : Int) ∧ (a : Int) < (s.length : Int) by omega, ?_⟩
    intro _
    refine call_pure [] (rW_ok (by' s (a : Int).toNat)) rfl rfl rfl ?_ ?_ ?_
    · (repeat' first | exact trivial | exact rfl | refine And.intro ?_ ?_)
    · (repeat' first | exact trivial | exact rfl | refine And.intro ?_ ?_)
    intro v hv _
    subst hv
    intro _; refine ⟨fun g => ?_, fun g => ?_⟩
    · have g4 : isW (by' s (a - 2)) := by
        have := of_decide_eq_true (show decide (isW (by' s (IntKind.i64.wrap ((a : Int) - 2)).toNat)) = true from g)
        rwa [e2'] at this
      intro _
      refine ⟨_, cv2 (b1 := decide (isW (by' s (a : Int).toNat))) (b2 := false) (.inr rfl) (.inl rfl), ?_, rfl⟩
      rw [decide_eq_false (fun q : PL bf bh kp s a ∧ HY s a => hH q.2)]
      rw [decide_eq_decide.2 (show isW (by' s (a : Int).toNat) ↔ PL bf bh kp s a from by rw [PL45 g2]; exact ⟨fun q => ⟨by omega, g4, q⟩, fun q => q.2.2⟩)]
    have g4 : ¬ isW (by' s (a - 2)) := by
      have := of_decide_eq_false (show decide (isW (by' s (IntKind.i64.wrap ((a : Int) - 2)).toNat)) = false from g)
      rwa [e2'] at this
    intro _
    exact no (fun q => g4 ((PL45 g2).1 q).2.1)
  have g2 : ¬ by' s (a - 1) = 45 := by
    have := beq_eq_false_iff_ne.1 (show (by' s (IntKind.i64.wrap ((a : Int) - 1)).toNat == 45) = false from g)
    rwa [e1'] at this
  intro _; refine ⟨fun g => ?_, fun g => ?_⟩
  · have g3 : ¬ by' s (a - 1) = 126 := by
      have := show (by' s (IntKind.i64.wrap ((a : Int) - 1)).toNat != 126) = true from g
      rwa [bne_iff_ne, e1'] at this
    intro _
    exact no (PLno g1 g2 g3)
  have g3 : by' s (a - 1) = 126 := by
    have := show (by' s (IntKind.i64.wrap ((a : Int) - 1)).toNat != 126) = false from g
    rwa [bne_eq_false_iff_eq, e1'] at this
  intro _; refine ⟨fun g => ?_, fun g => ?_⟩
  · have g4 := of_decide_eq_true (show decide ((a : Int) < 2) = true from g)
    intro _
    exact no (fun q => by have := ((PL126 g3).1 q).1; omega)
  have g4 := of_decide_eq_false (show decide ((a : Int) < 2) = false from g)
  have e2 : IntKind.i64.wrap ((a : Int) - 2) = ((a - 2 : Nat) : Int) := by rw [wrapS _ ⟨by omega, by omega⟩]; omega
  have e2' : (IntKind.i64.wrap ((a : Int) - 2)).toNat = a - 2 := by rw [e2]; omega
  intro _; refine ⟨by rw [e2]; omega, ?_⟩
  intro _
  refine call_pure [] (rL_ok (by' s (IntKind.i64.wrap ((a : Int) - 2)).toNat)) rfl rfl rfl ?_ ?_ ?_
  · (repeat' first | exact trivial | exact rfl | refine And.intro ?_ ?_)
  · (repeat' first | exact trivial | exact rfl | refine And.intro ?_ ?_)
  intro v hv _
  subst hv
  intro _; refine ⟨fun g => ?_, fun g => ?_⟩
  · have g5 : ¬ isL (by' s (a - 2)) := by
      have := show (!decide (isL (by' s (IntKind.i64.wrap ((a : Int) - 2)).toNat))) = true from g
      rw [Bool.not_eq_true', e2'] at this; exact of_decide_eq_false this
    intro _
    exact no (fun q => g5 ((PL126 g3).1 q).2.1)
  have g5 : isL (by' s (a - 2)) := by
    have := show (!decide (isL (by' s (IntKind.i64.wrap ((a : Int) - 2)).toNat))) = false from g
    rw [Bool.not_eq_false', e2'] at this; exact of_decide_eq_true this
  have e21 : a - 2 + 1 = a - 1 := by omega
  intro _
  refine call_pure [] (runB_ok s (a - 2) (by omega) hl g5 (IntKind.i64.wrap ((a : Int) - 2)) e2) rfl rfl rfl ?_ ?_ ?_
  · (repeat' first | exact trivial | exact rfl | refine And.intro ?_ ?_)
  · (repeat' first | exact trivial | exact rfl | refine And.intro ?_ ?_)
  intro v hv _
  rw [e21] at hv
  subst hv
  intro _
  refine call_pure [] (runF_ok s a (by omega) hl) rfl rfl rfl ?_ ?_ ?_
  · (repeat' first | exact trivial | exact rfl | refine And.intro ?_ ?_)
  · (repeat' first | exact trivial | exact rfl | refine And.intro ?_ ?_)
  intro v hv _
  subst hv
  intro _; refine ⟨fun g => ?_, fun g => ?_⟩
  · have g6 := of_decide_eq_true (show decide (BF s (a - 1) < bf) = true from g)
    intro _
    exact no (fun q => by have := ((PL126 g3).1 q).2.2.1; omega)
  have g6 := of_decide_eq_false (show decide (BF s (a - 1) < bf) = false from g)
  intro _; refine ⟨fun g => ?_, fun g => ?_⟩
  · have g7 := of_decide_eq_true (show decide (FB s a < bh) = true from g)
    intro _
    exact no (fun q => by have := ((PL126 g3).1 q).2.2.2.1; omega)
  have g7 := of_decide_eq_false (show decide (FB s a < bh) = false from g)
  intro _
  refine call_pure [(0, some 0)] (kept_ok bf bh kp (by' s (a - 2)) (fy s a) hV) rfl rfl rfl ?_ ?_ ?_
  · (repeat' first | exact trivial | exact rfl | refine And.intro ?_ ?_)
  · (repeat' first | exact trivial | exact rfl | refine And.intro ?_ ?_)
  intro v hv _
  subst hv
  intro _
  have ek : (!decide (inK kp (by' s (a - 2)) (fy s a))) = decide (PL bf bh kp s a) := by
    by_cases q : inK kp (by' s (a - 2)) (fy s a)
    · rw [decide_eq_true q, decide_eq_false (fun w => ((PL126 g3).1 w).2.2.2.2 q)]; rfl
    · rw [decide_eq_false q, decide_eq_true ((PL126 g3).2 ⟨by omega, g5, by omega, by omega, q⟩)]; rfl
  have eh : decide (PL bf bh kp s a ∧ HY s a) = decide (PL bf bh kp s a) := decide_eq_decide.2 ⟨fun q => q.1, fun q => ⟨q, g3⟩⟩
  refine ⟨_, cv2 (b1 := !decide (inK kp (by' s (a - 2)) (fy s a))) (b2 := !decide (inK kp (by' s (a - 2)) (fy s a))) (.inr rfl) (.inr rfl), ?_, rfl⟩
  rw [ek, eh]
/-- the list of places before one -/
def lst (bf bh : Int) (kp : LD) (s : List UInt8) : Nat → LD
  | 0 => []
  | m + 1 => lst bf bh kp s m ++ (if 1 ≤ m ∧ PL bf bh kp s m then [[.n (m : Int), .b (decide (HY s m))]] else [])
theorem lst_len (bf bh : Int) (kp : LD) (s : List UInt8) : ∀ m, List.length (lst bf bh kp s m) ≤ m
  | 0 => by simp [lst]
  | m + 1 => by
    have := lst_len bf bh kp s m
    simp only [lst, List.length_append]
    split <;> simp <;> omega
theorem lst_1 (bf bh : Int) (kp : LD) (s : List UInt8) : lst bf bh kp s 1 = [] := by
  simp [lst]
def LS (bf bh : Int) (kp : LD) (s : List UInt8) : LD := if VB bf bh kp ∧ VA s then lst bf bh kp s s.length else []
def LE (bf bh : Int) (kp : LD) (s : List UInt8) : Int := if VB bf bh kp ∧ VA s then 0 else 1
def LQ (bf bh : Int) (kp : LD) (s : List UInt8) : V → H → Prop := fun v h' => v = .tup [.grw 1 (LS bf bh kp s).length, .int .i64 (LE bf bh kp s)] ∧ h' = ⟨2, 1, [(1, .arr [.int .i64, .bool] .grow (.recs (LS bf bh kp s)))]⟩
theorem rList_ok (bf bh : Int) (kp : LD) (s : List UInt8) (hl : s.length ≤ 9223372036854775807) : SemF Try.prog 11 [.agg [.int .i64 bf, .int .i64 bh, .slc 0 1 0 kp.length], .str s] ⟨1, 1, [(0, .arr [.str] .rd (.recs kp))]⟩ (LQ bf bh kp s) := by
  refine SemF.ret ?_
  refine enter tt_ok Try.func11 (nt := 43) (cd := body Try.f11) rfl rfl rfl rfl ?_
  intro _
  refine call_pure [(0, some 0)] (rValid_ok bf bh kp) rfl rfl rfl ?_ ?_ ?_
  · (repeat' first | exact trivial | exact rfl | refine And.intro ?_ ?_)
  · (repeat' first | exact trivial | exact rfl | refine And.intro ?_ ?_)
  intro v hv _
  subst hv
  intro _
  refine call_pure [] (rvalid_ok s hl) rfl rfl rfl ?_ ?_ ?_
  · (repeat' first | exact trivial | exact rfl | refine And.intro ?_ ?_)
  · (repeat' first | exact trivial | exact rfl | refine And.intro ?_ ?_)
  intro v hv _
  subst hv
  have noV : ¬ (VB bf bh kp ∧ VA s) → LS bf bh kp s = [] ∧ LE bf bh kp s = 1 := fun h => by
    unfold LS LE; rw [if_neg h, if_neg h]; exact ⟨rfl, rfl⟩
  intro _; refine ⟨fun g => ?_, fun g => ?_⟩
  · have g : ¬ VB bf bh kp := by
      have := show (!decide (VB bf bh kp)) = true from g
      rw [Bool.not_eq_true'] at this; exact of_decide_eq_false this
    obtain ⟨x1, x2⟩ := noV (fun h => g h.1)
    intro _
    refine ⟨[(1, none)], .tup [.grw 1 0, .int .i64 1], ⟨2, 1, [(1, .arr [.int .i64, .bool] .grow (.recs []))]⟩, rfl, rfl, rfl, rfl, ?_, ?_, ?_, ?_⟩
    · (repeat' first | exact trivial | exact rfl | refine And.intro ?_ ?_)
    · (repeat' first | exact trivial | exact rfl | refine And.intro ?_ ?_)
    · rw [x1, x2]; rfl
    · rw [x1]
  have hVB : VB bf bh kp := by
    have := show (!decide (VB bf bh kp)) = false from g
    rw [Bool.not_eq_false'] at this; exact of_decide_eq_true this
  intro _; refine ⟨fun g => ?_, fun g => ?_⟩
  · have g : ¬ VA s := by
      have := show (!decide (VA s)) = true from g
      rw [Bool.not_eq_true'] at this; exact of_decide_eq_false this
    obtain ⟨x1, x2⟩ := noV (fun h => g h.2)
    intro _
    refine ⟨[(1, none)], .tup [.grw 1 0, .int .i64 1], ⟨2, 1, [(1, .arr [.int .i64, .bool] .grow (.recs []))]⟩, rfl, rfl, rfl, rfl, ?_, ?_, ?_, ?_⟩
    · (repeat' first | exact trivial | exact rfl | refine And.intro ?_ ?_)
    · (repeat' first | exact trivial | exact rfl | refine And.intro ?_ ?_)
    · rw [x1, x2]; rfl
    · rw [x1]
  have hVA : VA s := by
    have := show (!decide (VA s)) = false from g
    rw [Bool.not_eq_false'] at this; exact of_decide_eq_true this
  have hl2 := hVA.1
  have xS : LS bf bh kp s = lst bf bh kp s s.length := by unfold LS; rw [if_pos ⟨hVB, hVA⟩]
  have xE : LE bf bh kp s = 0 := by unfold LE; rw [if_pos ⟨hVB, hVA⟩]
  intro _
  refine loop2 tt_ok [9, 8] [2] 3 (fun m : { m : Nat // 1 ≤ m ∧ (m ≤ s.length ∨ m = 1) } => [(9, .int .i64 (m.1 : Nat)), (8, .grw 2 (lst bf bh kp s m.1).length)]) (fun m => [(2, .arr [.int .i64, .bool] .grow (.recs (lst bf bh kp s m.1)))]) (fun m => s.length + 1 - m.1) ⟨1, by omega, by omega⟩ ?_
  intro _
  refine ⟨⟨th [(2, none)] 3, rfl, rfl, rfl, rfl, rfl, rfl, ?_, ?_⟩, ?_⟩
  · (repeat' first | exact trivial | exact rfl | refine And.intro ?_ ?_)
  · (repeat' first | exact trivial | exact rfl | refine And.intro ?_ ?_)
  intro ⟨m, h1, h2⟩
  have hll := lst_len bf bh kp s m
  intro _; refine ⟨fun g => ?_, fun g => ?_⟩
  rotate_left
  · have g := of_decide_eq_false (show decide ((m : Int) < (s.length : Int)) = false from g)
    have e : lst bf bh kp s m = lst bf bh kp s s.length := by
      rcases h2 with h2 | h2
      · rw [show m = s.length by omega]
      · subst h2
        rcases Nat.eq_zero_or_pos s.length with q | q
        · rw [q, lst_1]; rfl
        · rw [show s.length = 1 by omega]
    intro _
    refine ⟨[(1, some 2)], .tup [.grw 1 (lst bf bh kp s m).length, .int .i64 0], ⟨2, 1, [(1, .arr [.int .i64, .bool] .grow (.recs (lst bf bh kp s m)))]⟩, rfl, rfl, rfl, rfl, ?_, ?_, ?_, ?_⟩
    · (repeat' first | exact trivial | exact rfl | refine And.intro ?_ ?_)
    · (repeat' first | exact trivial | exact rfl | refine And.intro ?_ ?_)
    · rw [xS, xE, e]
    · rw [xS, e]
  have g := of_decide_eq_true (show decide ((m : Int) < (s.length : Int)) = true from g)
  intro _
  refine call_pure [(0, some 0)] (place_ok bf bh kp s m hVB h1 (by omega) hl2) rfl rfl rfl ?_ ?_ ?_
  · (repeat' first | exact trivial | exact rfl | refine And.intro ?_ ?_)
  · (repeat' first | exact trivial | exact rfl | refine And.intro ?_ ?_)
  intro v hv _
  subst hv
  have ls : lst bf bh kp s (m + 1) = lst bf bh kp s m ++ (if 1 ≤ m ∧ PL bf bh kp s m then [[.n (m : Int), .b (decide (HY s m))]] else []) := rfl
  intro _; refine ⟨fun g => ?_, fun g => ?_⟩
  · have gp := of_decide_eq_true (show decide (PL bf bh kp s m) = true from g)
    have eh : decide (PL bf bh kp s m ∧ HY s m) = decide (HY s m) := decide_eq_decide.2 ⟨fun q => q.2, fun q => ⟨gp, q⟩⟩
    rw [if_pos ⟨h1, gp⟩] at ls
    intro _; refine ⟨rfl, ?_⟩
    intro _; refine ⟨fun g3 => by simp at g3, fun _ => ?_⟩
    refine ⟨⟨rfl, show (lst bf bh kp s m).length + 1 ≤ 4611686018427387904 by omega, show ((lst bf bh kp s m).length + 1) * 16 ≤ 140737488355328 by omega⟩, ?_⟩
    refine ⟨⟨m + 1, by omega, by omega⟩, by simp only []; omega, th [(2, some 4)] 3, rfl, rfl, rfl, rfl, rfl, rfl, ?_, ?_⟩
    · (repeat' first | exact trivial | exact rfl | refine And.intro ?_ ?_)
      · exact (wrap_nat m (by omega)).symm
      · rw [ls, List.length_append]; (repeat' first | exact trivial | exact rfl | refine And.intro ?_ ?_)
    · (repeat' first | exact trivial | exact rfl | refine And.intro ?_ ?_)
      rw [ls]
      exact (show lst bf bh kp s m ++ [[.n (m : Int), .b (decide (HY s m))]] = lst bf bh kp s m ++ [[.n (m : Int), .b (decide (PL bf bh kp s m ∧ HY s m))]] by rw [eh])
  have gp := of_decide_eq_false (show decide (PL bf bh kp s m) = false from g)
  rw [if_neg (fun q => gp q.2), List.append_nil] at ls
  refine ⟨⟨m + 1, by omega, by omega⟩, by simp only []; omega, th [] 3, rfl, rfl, rfl, rfl, rfl, rfl, ?_, ?_⟩
  · (repeat' first | exact trivial | exact rfl | refine And.intro ?_ ?_)
    · exact (wrap_nat m (by omega)).symm
    · rw [ls]; (repeat' first | exact trivial | exact rfl | refine And.intro ?_ ?_)
  · (repeat' first | exact trivial | exact rfl | refine And.intro ?_ ?_)
    rw [ls]; (repeat' first | exact trivial | exact rfl | refine And.intro ?_ ?_)
set_option maxRecDepth 100000
theorem BG_of {s : List UInt8} (m : Nat) (h : BG s (m - 1)) : BG s (m + 1 - 1) := by
  obtain ⟨j, a, b⟩ := h
  exact ⟨j, by omega, b⟩
theorem BG_no {s : List UInt8} (m : Nat) (h : ¬ BG s (m - 1)) (h1 : 1 ≤ m) (e1' : (IntKind.i64.wrap ((m : Int) - 1)).toNat = m - 1) : decide (BG s (m + 1 - 1)) = (by' s (IntKind.i64.wrap ((m : Int) - 1)).toNat != 32) := by
  rw [e1']
  by_cases q : by' s (m - 1) = 32
  · have hn : ¬ BG s (m + 1 - 1) := fun ⟨j, a, b⟩ => by
      rcases Nat.lt_or_ge j (m - 1) with w | w
      · exact h ⟨j, w, b⟩
      · have : j = m - 1 := by omega
        subst this; exact b q
    rw [q, decide_eq_false hn]; rfl
  · rw [decide_eq_true (show BG s (m + 1 - 1) from ⟨m - 1, by omega, q⟩)]
    exact (bne_iff_ne.2 q).symm
theorem two {k : List UInt8} (h : k.length = 2) {x y : Int} (hx : 0 ≤ x ∧ x ≤ 255) (hy : 0 ≤ y ∧ y ≤ 255) : k = ([x, y].map fun n : Int => UInt8.ofNat n.toNat) ↔ by' k 0 = x ∧ by' k 1 = y := by
  match k, h with
  | [a, b], _ =>
    have e : ∀ (c : UInt8) (z : Int), 0 ≤ z ∧ z ≤ 255 → (c = UInt8.ofNat z.toNat ↔ (c.toNat : Int) = z) := fun c z hz => by
      refine ⟨fun q => ?_, fun q => ?_⟩
      · rw [q]
        have : (UInt8.ofNat z.toNat).toNat = z.toNat := by rw [UInt8.toNat_ofNat']; omega
        omega
      · subst q; simp
    show [a, b] = [_, _] ↔ ((a.toNat : Int) = x ∧ (b.toNat : Int) = y)
    rw [← e a x hx, ← e b y hy]
    simp
theorem inS_inK {bf bh : Int} {kp : LD} (hV : VB bf bh kp) {x y : Int} (hx : 0 ≤ x ∧ x ≤ 255) (hy : 0 ≤ y ∧ y ≤ 255) : inS kp kp.length ([x, y].map fun n : Int => UInt8.ofNat n.toNat) ↔ inK kp x y := by
  unfold inS inK
  exact ⟨fun ⟨j, a, b⟩ => ⟨j, a, (two (hV.2.2.2 j a).1.1 hx hy).1 b⟩, fun ⟨j, a, b⟩ => ⟨j, a, (two (hV.2.2.2 j a).1.1 hx hy).2 b⟩⟩
theorem flr_bd : ∀ (u : List UInt8), 0 ≤ flr u ∧ flr u ≤ 255
  | [] => by simp [flr]
  | b :: l => by
    have := flr_bd l
    have h := b.toNat_lt
    simp only [flr]; split <;> omega
set_option maxHeartbeats 4000000 in
theorem List_ok (bf bh : Int) (kp : LD) (s : List UInt8) (hl : s.length ≤ 9223372036854775807) : SemF Try.prog 10 [.agg [.int .i64 bf, .int .i64 bh, .slc 0 1 0 kp.length], .str s] ⟨1, 1, [(0, .arr [.str] .rd (.recs kp))]⟩ (LQ bf bh kp s) := by
  refine SemF.ret ?_
  refine enter tt_ok Try.func10 (nt := 25) (cd := body Try.f10) rfl rfl rfl rfl ?_
  intro _
  refine call_pure [(0, some 0)] (Valid_ok bf bh kp) rfl rfl rfl ?_ ?_ ?_
  · (repeat' first | exact trivial | exact rfl | refine And.intro ?_ ?_)
  · (repeat' first | exact trivial | exact rfl | refine And.intro ?_ ?_)
  intro v hv _
  subst hv
  have noV : ¬ (VB bf bh kp ∧ VA s) → LS bf bh kp s = [] ∧ LE bf bh kp s = 1 := fun h => by
    unfold LS LE; rw [if_neg h, if_neg h]; exact ⟨rfl, rfl⟩
  intro _; refine ⟨fun g => ?_, fun g => ?_⟩
  · have g : ¬ VB bf bh kp := by
      have := show (!decide (VB bf bh kp)) = true from g
      rw [Bool.not_eq_true'] at this; exact of_decide_eq_false this
    obtain ⟨x1, x2⟩ := noV (fun h => g h.1)
    intro _
    refine ⟨[(1, none)], .tup [.grw 1 0, .int .i64 1], ⟨2, 1, [(1, .arr [.int .i64, .bool] .grow (.recs []))]⟩, rfl, rfl, rfl, rfl, ?_, ?_, ?_, ?_⟩
    · (repeat' first | exact trivial | exact rfl | refine And.intro ?_ ?_)
    · (repeat' first | exact trivial | exact rfl | refine And.intro ?_ ?_)
    · rw [x1, x2]; rfl
    · rw [x1]
  have hVB : VB bf bh kp := by
    have := show (!decide (VB bf bh kp)) = false from g
    rw [Bool.not_eq_false'] at this; exact of_decide_eq_true this
  intro _
  refine call_pure [] (valid_ok s hl) rfl rfl rfl ?_ ?_ ?_
  · (repeat' first | exact trivial | exact rfl | refine And.intro ?_ ?_)
  · (repeat' first | exact trivial | exact rfl | refine And.intro ?_ ?_)
  intro v hv _
  subst hv
  intro _; refine ⟨fun g => ?_, fun g => ?_⟩
  · have g : ¬ VA s := by
      have := show (!decide (VA s)) = true from g
      rw [Bool.not_eq_true'] at this; exact of_decide_eq_false this
    obtain ⟨x1, x2⟩ := noV (fun h => g h.2)
    intro _
    refine ⟨[(1, none)], .tup [.grw 1 0, .int .i64 1], ⟨2, 1, [(1, .arr [.int .i64, .bool] .grow (.recs []))]⟩, rfl, rfl, rfl, rfl, ?_, ?_, ?_, ?_⟩
    · (repeat' first | exact trivial | exact rfl | refine And.intro ?_ ?_)
    · (repeat' first | exact trivial | exact rfl | refine And.intro ?_ ?_)
    · rw [x1, x2]; rfl
    · rw [x1]
  have hVA : VA s := by
    have := show (!decide (VA s)) = false from g
    rw [Bool.not_eq_false'] at this; exact of_decide_eq_true this
  have hl2 := hVA.1
  have xS : LS bf bh kp s = lst bf bh kp s s.length := by unfold LS; rw [if_pos ⟨hVB, hVA⟩]
  have xE : LE bf bh kp s = 0 := by unfold LE; rw [if_pos ⟨hVB, hVA⟩]
  have hk20 := hVB.2.2.1
  intro _
  refine enter tt_ok Try.func21 (nt := 6) (cd := body Try.f21) rfl rfl rfl rfl ?_
  intro _
  intro _
  refine range_ok ?_
  intro _
  refine enter tt_ok Try.func32 (nt := 131) (cd := body Try.f32) rfl rfl rfl rfl ?_
  intro _
  refine loop2 tt_ok [18] [7] 8 (fun i : { i : Nat // i ≤ kp.length } => [(18, .int .i64 (i.1 : Nat))]) (fun i => [(7, .smap [.bool] false (SM kp i.1))]) (fun i => kp.length - i.1) ⟨0, by omega⟩ ?_
  intro _
  refine ⟨⟨th [] 8, rfl, rfl, rfl, rfl, rfl, rfl, ?_, ?_⟩, ?_⟩
  · (repeat' first | exact trivial | exact rfl | refine And.intro ?_ ?_)
  · (repeat' first | exact trivial | exact rfl | refine And.intro ?_ ?_)
  intro ⟨i, hi⟩
  intro _; refine ⟨fun g => ?_, fun g => ?_⟩
  · have g := of_decide_eq_true (show decide ((i : Int) < (kp.length : Int)) = true from g)
    have ei : 0 + (i : Int).toNat = i := by omega
    intro _; refine ⟨show 0 ≤ (i : Int) ∧ (i : Int) < (kp.length : Int) by omega, ?_⟩
    intro _; refine ⟨show 0 + (i : Int).toNat < kp.length by omega, ?_⟩
    refine ⟨⟨i + 1, by omega⟩, by simp only []; omega, th [] 8, rfl, rfl, rfl, rfl, rfl, rfl, ?_, ?_⟩
    · (repeat' first | exact trivial | exact rfl | refine And.intro ?_ ?_)
      exact (wrap_nat i (by omega)).symm
    · (repeat' first | exact trivial | exact rfl | refine And.intro ?_ ?_)
      exact (show mputS (SM kp i) (kS kp i) [.b true] = mputS (SM kp i) (kS kp (0 + (i : Int).toNat)) [.b true] by rw [ei])
  have g := of_decide_eq_false (show decide ((i : Int) < (kp.length : Int)) = false from g)
  have hik : i = kp.length := by omega
  subst hik
  have hFL := mk_len (s.length + 1) (FB s)
  intro _
  refine call_new [] (letters_ok s hl2) rfl rfl rfl rfl ?_ ?_ ?_
  · (repeat' first | exact trivial | exact rfl | refine And.intro ?_ ?_)
  · (repeat' first | exact trivial | exact rfl | refine And.intro ?_ ?_)
  intro v h' hv
  obtain ⟨rfl, rfl⟩ := hv
  refine ⟨[(8, some 0)], 9, [(8, .arr [.int .i64] .own (.ints (mk (s.length + 1) (FB s))))], .grw 8 (s.length + 1), rfl, rfl, rfl, rfl, rfl, ?_, ?_, ?_⟩
  · (repeat' first | exact trivial | exact rfl | refine And.intro ?_ ?_)
  · (repeat' first | exact trivial | exact rfl | refine And.intro ?_ ?_)
  intro _
  refine loop2 tt_ok [10, 7, 9] [2, 9] 10 (fun m : { m : Nat // 1 ≤ m ∧ (m ≤ s.length ∨ m = 1) } => [(10, .int .i64 (m.1 : Nat)), (7, .test (decide (BG s (m.1 - 1)))), (9, .int .i64 (BF s (m.1 - 1)))]) (fun m => [(2, .cells [.grw 9 (lst bf bh kp s m.1).length]), (9, .arr [.int .i64, .bool] .grow (.recs (lst bf bh kp s m.1)))]) (fun m => s.length + 1 - m.1) ⟨1, by omega, by omega⟩ ?_
  intro _
  refine ⟨⟨th [(9, none)] 10, rfl, rfl, rfl, rfl, rfl, rfl, ?_, ?_⟩, ?_⟩
  · (repeat' first | exact trivial | exact rfl | refine And.intro ?_ ?_)
  · (repeat' first | exact trivial | exact rfl | refine And.intro ?_ ?_)
  intro ⟨m, h1, h2⟩
  have hll := lst_len bf bh kp s m
  intro _; refine ⟨fun g => ?_, fun g => ?_⟩
  rotate_left
  · have g := of_decide_eq_false (show decide ((m : Int) < (s.length : Int)) = false from g)
    have e : lst bf bh kp s m = lst bf bh kp s s.length := by
      rcases h2 with h2 | h2
      · rw [show m = s.length by omega]
      · subst h2
        rcases Nat.eq_zero_or_pos s.length with q | q
        · rw [q, lst_1]; rfl
        · rw [show s.length = 1 by omega]
    intro _
    intro _
    refine ⟨[(1, some 9)], .tup [.grw 1 (lst bf bh kp s m).length, .int .i64 0], ⟨2, 1, [(1, .arr [.int .i64, .bool] .grow (.recs (lst bf bh kp s m)))]⟩, rfl, rfl, rfl, rfl, ?_, ?_, ?_, ?_⟩
    · (repeat' first | exact trivial | exact rfl | refine And.intro ?_ ?_)
    · (repeat' first | exact trivial | exact rfl | refine And.intro ?_ ?_)
    · rw [xS, xE, e]
    · rw [xS, e]
  have g := of_decide_eq_true (show decide ((m : Int) < (s.length : Int)) = true from g)
  have hms : m < s.length := by omega
  have ls : lst bf bh kp s (m + 1) = lst bf bh kp s m ++ (if 1 ≤ m ∧ PL bf bh kp s m then [[.n (m : Int), .b (decide (HY s m))]] else []) := rfl
  have e1 : IntKind.i64.wrap ((m : Int) - 1) = ((m - 1 : Nat) : Int) := by rw [wrapS _ ⟨by omega, by omega⟩]; omega
  have e1' : (IntKind.i64.wrap ((m : Int) - 1)).toNat = m - 1 := by rw [e1]; omega
  have hbf := BF_bd s (m - 1)
  have eBF : BF s (m + 1 - 1) = fo (BF s (m - 1)) (by' s (IntKind.i64.wrap ((m : Int) - 1)).toNat) := by
    rw [e1', Nat.add_sub_cancel]
    obtain ⟨q, rfl⟩ : ∃ q, m = q + 1 := ⟨m - 1, by omega⟩
    rfl
  intro _; refine ⟨by rw [e1]; omega, ?_⟩
  intro _; refine ⟨fun g => ?_, fun g => ?_⟩
  · have g1 : by' s (m - 1) = 32 := by
      have := eq_of_beq (show (by' s (IntKind.i64.wrap ((m : Int) - 1)).toNat == 32) = true from g)
      rwa [e1'] at this
    have hHY : decide (HY s m) = false := decide_eq_false (by unfold HY; omega)
    intro _; refine ⟨fun g => ?_, fun g => ?_⟩
    · have g2 := of_decide_eq_true (show decide (BG s (m - 1)) = true from g)
      intro _; refine ⟨show 0 ≤ (m : Int) ∧ (m : Int) < (s.length : Int) by omega, ?_⟩
      intro _; refine ⟨fun g => ?_, fun g => ?_⟩
      · have hB := of_decide_eq_true (show decide (BG s (m - 1)) = true from g)
        intro _; refine ⟨by rw [e1]; omega, ?_⟩
        intro _
        refine call_pure [] (follow_ok (BF s (m - 1)) (by' s (IntKind.i64.wrap ((m : Int) - 1)).toNat) (by_range _ _) (by omega)) rfl rfl rfl ?_ ?_ ?_
        · (repeat' first | exact trivial | exact rfl | refine And.intro ?_ ?_)
        · (repeat' first | exact trivial | exact rfl | refine And.intro ?_ ?_)
        intro v hv _
        subst hv
        intro _; refine ⟨fun g => ?_, fun g => ?_⟩
        · have hPL : PL bf bh kp s m := (PL32 g1).2 ⟨g2, bne_iff_ne.1 (show (by' s (m : Int).toNat != 32) = true from g)⟩
          rw [if_pos ⟨h1, hPL⟩] at ls
          intro _
          refine yield_ok tt_ok ?_
          intro _; refine ⟨rfl, ?_⟩
          intro _; refine ⟨fun g3 => by simp at g3, fun _ => ?_⟩
          refine ⟨⟨rfl, show (lst bf bh kp s m).length + 1 ≤ 4611686018427387904 by omega, show ((lst bf bh kp s m).length + 1) * 16 ≤ 140737488355328 by omega⟩, ?_⟩
          intro _
          refine ⟨⟨m + 1, by omega, by omega⟩, by simp only []; omega, th [(9, some 13)] 10, rfl, rfl, rfl, rfl, rfl, rfl, ?_, ?_⟩
          · (repeat' first | exact trivial | exact rfl | refine And.intro ?_ ?_)
            · exact (wrap_nat m (by omega)).symm
            · exact (decide_eq_true (BG_of m hB))
            · exact eBF
          · (repeat' first | exact trivial | exact rfl | refine And.intro ?_ ?_)
            · rw [ls, List.length_append]; (repeat' first | exact trivial | exact rfl | refine And.intro ?_ ?_)
            · rw [ls, hHY]; (repeat' first | exact trivial | exact rfl | refine And.intro ?_ ?_)
        have hPL : ¬ PL bf bh kp s m := fun q => ((PL32 g1).1 q).2 (bne_eq_false_iff_eq.1 (show (by' s (m : Int).toNat != 32) = false from g))
        rw [if_neg (fun q => hPL q.2), List.append_nil] at ls
        refine ⟨⟨m + 1, by omega, by omega⟩, by simp only []; omega, th [] 10, rfl, rfl, rfl, rfl, rfl, rfl, ?_, ?_⟩
        · (repeat' first | exact trivial | exact rfl | refine And.intro ?_ ?_)
          · exact (wrap_nat m (by omega)).symm
          · exact (decide_eq_true (BG_of m hB))
          · exact eBF
        · (repeat' first | exact trivial | exact rfl | refine And.intro ?_ ?_)
          all_goals (rw [ls]; (repeat' first | exact trivial | exact rfl | refine And.intro ?_ ?_))
      have hB := of_decide_eq_false (show decide (BG s (m - 1)) = false from g)
      have hBt := BG_no m hB h1 e1'
      intro _; refine ⟨by rw [e1]; omega, ?_⟩
      intro _; refine ⟨by rw [e1]; omega, ?_⟩
      intro _
      refine call_pure [] (follow_ok (BF s (m - 1)) (by' s (IntKind.i64.wrap ((m : Int) - 1)).toNat) (by_range _ _) (by omega)) rfl rfl rfl ?_ ?_ ?_
      · (repeat' first | exact trivial | exact rfl | refine And.intro ?_ ?_)
      · (repeat' first | exact trivial | exact rfl | refine And.intro ?_ ?_)
      intro v hv _
      subst hv
      intro _; refine ⟨fun g => ?_, fun g => ?_⟩
      · have hPL : PL bf bh kp s m := (PL32 g1).2 ⟨g2, bne_iff_ne.1 (show (by' s (m : Int).toNat != 32) = true from g)⟩
        rw [if_pos ⟨h1, hPL⟩] at ls
        intro _
        refine yield_ok tt_ok ?_
        intro _; refine ⟨rfl, ?_⟩
        intro _; refine ⟨fun g3 => by simp at g3, fun _ => ?_⟩
        refine ⟨⟨rfl, show (lst bf bh kp s m).length + 1 ≤ 4611686018427387904 by omega, show ((lst bf bh kp s m).length + 1) * 16 ≤ 140737488355328 by omega⟩, ?_⟩
        intro _
        refine ⟨⟨m + 1, by omega, by omega⟩, by simp only []; omega, th [(9, some 13)] 10, rfl, rfl, rfl, rfl, rfl, rfl, ?_, ?_⟩
        · (repeat' first | exact trivial | exact rfl | refine And.intro ?_ ?_)
          · exact (wrap_nat m (by omega)).symm
          · exact hBt
          · exact eBF
        · (repeat' first | exact trivial | exact rfl | refine And.intro ?_ ?_)
          · rw [ls, List.length_append]; (repeat' first | exact trivial | exact rfl | refine And.intro ?_ ?_)
          · rw [ls, hHY]; (repeat' first | exact trivial | exact rfl | refine And.intro ?_ ?_)
      have hPL : ¬ PL bf bh kp s m := fun q => ((PL32 g1).1 q).2 (bne_eq_false_iff_eq.1 (show (by' s (m : Int).toNat != 32) = false from g))
      rw [if_neg (fun q => hPL q.2), List.append_nil] at ls
      refine ⟨⟨m + 1, by omega, by omega⟩, by simp only []; omega, th [] 10, rfl, rfl, rfl, rfl, rfl, rfl, ?_, ?_⟩
      · (repeat' first | exact trivial | exact rfl | refine And.intro ?_ ?_)
        · exact (wrap_nat m (by omega)).symm
        · exact hBt
        · exact eBF
      · (repeat' first | exact trivial | exact rfl | refine And.intro ?_ ?_)
        all_goals (rw [ls]; (repeat' first | exact trivial | exact rfl | refine And.intro ?_ ?_))
    have g2 := of_decide_eq_false (show decide (BG s (m - 1)) = false from g)
    have hPL : ¬ PL bf bh kp s m := fun q => g2 ((PL32 g1).1 q).1
    intro _; refine ⟨fun g => ?_, fun g => ?_⟩
    · have hB := of_decide_eq_true (show decide (BG s (m - 1)) = true from g)
      intro _; refine ⟨by rw [e1]; omega, ?_⟩
      intro _
      refine call_pure [] (follow_ok (BF s (m - 1)) (by' s (IntKind.i64.wrap ((m : Int) - 1)).toNat) (by_range _ _) (by omega)) rfl rfl rfl ?_ ?_ ?_
      · (repeat' first | exact trivial | exact rfl | refine And.intro ?_ ?_)
      · (repeat' first | exact trivial | exact rfl | refine And.intro ?_ ?_)
      intro v hv _
      subst hv
      rw [if_neg (fun q => hPL q.2), List.append_nil] at ls
      refine ⟨⟨m + 1, by omega, by omega⟩, by simp only []; omega, th [] 10, rfl, rfl, rfl, rfl, rfl, rfl, ?_, ?_⟩
      · (repeat' first | exact trivial | exact rfl | refine And.intro ?_ ?_)
        · exact (wrap_nat m (by omega)).symm
        · exact (decide_eq_true (BG_of m hB))
        · exact eBF
      · (repeat' first | exact trivial | exact rfl | refine And.intro ?_ ?_)
        all_goals (rw [ls]; (repeat' first | exact trivial | exact rfl | refine And.intro ?_ ?_))
    have hB := of_decide_eq_false (show decide (BG s (m - 1)) = false from g)
    have hBt := BG_no m hB h1 e1'
    intro _; refine ⟨by rw [e1]; omega, ?_⟩
    intro _; refine ⟨by rw [e1]; omega, ?_⟩
    intro _
    refine call_pure [] (follow_ok (BF s (m - 1)) (by' s (IntKind.i64.wrap ((m : Int) - 1)).toNat) (by_range _ _) (by omega)) rfl rfl rfl ?_ ?_ ?_
    · (repeat' first | exact trivial | exact rfl | refine And.intro ?_ ?_)
    · (repeat' first | exact trivial | exact rfl | refine And.intro ?_ ?_)
    intro v hv _
    subst hv
    rw [if_neg (fun q => hPL q.2), List.append_nil] at ls
    refine ⟨⟨m + 1, by omega, by omega⟩, by simp only []; omega, th [] 10, rfl, rfl, rfl, rfl, rfl, rfl, ?_, ?_⟩
    · (repeat' first | exact trivial | exact rfl | refine And.intro ?_ ?_)
      · exact (wrap_nat m (by omega)).symm
      · exact hBt
      · exact eBF
    · (repeat' first | exact trivial | exact rfl | refine And.intro ?_ ?_)
      all_goals (rw [ls]; (repeat' first | exact trivial | exact rfl | refine And.intro ?_ ?_))
  have g1 : ¬ by' s (m - 1) = 32 := by
    have := beq_eq_false_iff_ne.1 (show (by' s (IntKind.i64.wrap ((m : Int) - 1)).toNat == 32) = false from g)
    rwa [e1'] at this
  intro _; refine ⟨fun g => ?_, fun g => ?_⟩
  · have g2 : by' s (m - 1) = 45 := by
      have := eq_of_beq (show (by' s (IntKind.i64.wrap ((m : Int) - 1)).toNat == 45) = true from g)
      rwa [e1'] at this
    have hHY : decide (HY s m) = false := decide_eq_false (by unfold HY; omega)
    intro _; refine ⟨fun g => ?_, fun g => ?_⟩
    rotate_left
    · have g3 := of_decide_eq_false (show decide ((m : Int) > 1) = false from g)
      have hPL : ¬ PL bf bh kp s m := fun q => by have := ((PL45 g2).1 q).1; omega
      intro _; refine ⟨fun g => ?_, fun g => ?_⟩
      · have hB := of_decide_eq_true (show decide (BG s (m - 1)) = true from g)
        intro _; refine ⟨by rw [e1]; omega, ?_⟩
        intro _
        refine call_pure [] (follow_ok (BF s (m - 1)) (by' s (IntKind.i64.wrap ((m : Int) - 1)).toNat) (by_range _ _) (by omega)) rfl rfl rfl ?_ ?_ ?_
        · (repeat' first | exact trivial | exact rfl | refine And.intro ?_ ?_)
        · (repeat' first | exact trivial | exact rfl | refine And.intro ?_ ?_)
        intro v hv _
        subst hv
        rw [if_neg (fun q => hPL q.2), List.append_nil] at ls
        refine ⟨⟨m + 1, by omega, by omega⟩, by simp only []; omega, th [] 10, rfl, rfl, rfl, rfl, rfl, rfl, ?_, ?_⟩
        · (repeat' first | exact trivial | exact rfl | refine And.intro ?_ ?_)
          · exact (wrap_nat m (by omega)).symm
          · exact (decide_eq_true (BG_of m hB))
          · exact eBF
        · (repeat' first | exact trivial | exact rfl | refine And.intro ?_ ?_)
          all_goals (rw [ls]; (repeat' first | exact trivial | exact rfl | refine And.intro ?_ ?_))
      have hB := of_decide_eq_false (show decide (BG s (m - 1)) = false from g)
      have hBt := BG_no m hB h1 e1'
      intro _; refine ⟨by rw [e1]; omega, ?_⟩
      intro _; refine ⟨by rw [e1]; omega, ?_⟩
      intro _
      refine call_pure [] (follow_ok (BF s (m - 1)) (by' s (IntKind.i64.wrap ((m : Int) - 1)).toNat) (by_range _ _) (by omega)) rfl rfl rfl ?_ ?_ ?_
      · (repeat' first | exact trivial | exact rfl | refine And.intro ?_ ?_)
      · (repeat' first | exact trivial | exact rfl | refine And.intro ?_ ?_)
      intro v hv _
      subst hv
      rw [if_neg (fun q => hPL q.2), List.append_nil] at ls
      refine ⟨⟨m + 1, by omega, by omega⟩, by simp only []; omega, th [] 10, rfl, rfl, rfl, rfl, rfl, rfl, ?_, ?_⟩
      · (repeat' first | exact trivial | exact rfl | refine And.intro ?_ ?_)
        · exact (wrap_nat m (by omega)).symm
        · exact hBt
        · exact eBF
      · (repeat' first | exact trivial | exact rfl | refine And.intro ?_ ?_)
        all_goals (rw [ls]; (repeat' first | exact trivial | exact rfl | refine And.intro ?_ ?_))
    have g3 := of_decide_eq_true (show decide ((m : Int) > 1) = true from g)
    have e2 : IntKind.i64.wrap ((m : Int) - 2) = ((m - 2 : Nat) : Int) := by rw [wrapS _ ⟨by omega, by omega⟩]; omega
    have e2' : (IntKind.i64.wrap ((m : Int) - 2)).toNat = m - 2 := by rw [e2]; omega
    intro _; refine ⟨by rw [e2]; omega, ?_⟩
    intro _
    refine call_pure [] (isW_ok (by' s (IntKind.i64.wrap ((m : Int) - 2)).toNat) (by_range _ _)) rfl rfl rfl ?_ ?_ ?_
    · (repeat' first | exact trivial | exact rfl | refine And.intro ?_ ?_)
    · (repeat' first | exact trivial | exact rfl | refine And.intro ?_ ?_)
    intro v hv _
    subst hv
    intro _; refine ⟨fun g => ?_, fun g => ?_⟩
    rotate_left
    · have g4 : ¬ isW (by' s (m - 2)) := by
        have := of_decide_eq_false (show decide (isW (by' s (IntKind.i64.wrap ((m : Int) - 2)).toNat)) = false from g)
        rwa [e2'] at this
      have hPL : ¬ PL bf bh kp s m := fun q => g4 ((PL45 g2).1 q).2.1
      intro _; refine ⟨fun g => ?_, fun g => ?_⟩
      · have hB := of_decide_eq_true (show decide (BG s (m - 1)) = true from g)
        intro _; refine ⟨by rw [e1]; omega, ?_⟩
        intro _
        refine call_pure [] (follow_ok (BF s (m - 1)) (by' s (IntKind.i64.wrap ((m : Int) - 1)).toNat) (by_range _ _) (by omega)) rfl rfl rfl ?_ ?_ ?_
        · (repeat' first | exact trivial | exact rfl | refine And.intro ?_ ?_)
        · (repeat' first | exact trivial | exact rfl | refine And.intro ?_ ?_)
        intro v hv _
        subst hv
        rw [if_neg (fun q => hPL q.2), List.append_nil] at ls
        refine ⟨⟨m + 1, by omega, by omega⟩, by simp only []; omega, th [] 10, rfl, rfl, rfl, rfl, rfl, rfl, ?_, ?_⟩
        · (repeat' first | exact trivial | exact rfl | refine And.intro ?_ ?_)
          · exact (wrap_nat m (by omega)).symm
          · exact (decide_eq_true (BG_of m hB))
          · exact eBF
        · (repeat' first | exact trivial | exact rfl | refine And.intro ?_ ?_)
          all_goals (rw [ls]; (repeat' first | exact trivial | exact rfl | refine And.intro ?_ ?_))
      have hB := of_decide_eq_false (show decide (BG s (m - 1)) = false from g)
      have hBt := BG_no m hB h1 e1'
      intro _; refine ⟨by rw [e1]; omega, ?_⟩
      intro _; refine ⟨by rw [e1]; omega, ?_⟩
      intro _
      refine call_pure [] (follow_ok (BF s (m - 1)) (by' s (IntKind.i64.wrap ((m : Int) - 1)).toNat) (by_range _ _) (by omega)) rfl rfl rfl ?_ ?_ ?_
      · (repeat' first | exact trivial | exact rfl | refine And.intro ?_ ?_)
      · (repeat' first | exact trivial | exact rfl | refine And.intro ?_ ?_)
      intro v hv _
      subst hv
      rw [if_neg (fun q => hPL q.2), List.append_nil] at ls
      refine ⟨⟨m + 1, by omega, by omega⟩, by simp only []; omega, th [] 10, rfl, rfl, rfl, rfl, rfl, rfl, ?_, ?_⟩
      · (repeat' first | exact trivial | exact rfl | refine And.intro ?_ ?_)
        · exact (wrap_nat m (by omega)).symm
        · exact hBt
        · exact eBF
      · (repeat' first | exact trivial | exact rfl | refine And.intro ?_ ?_)
        all_goals (rw [ls]; (repeat' first | exact trivial | exact rfl | refine And.intro ?_ ?_))
    have g4 : isW (by' s (m - 2)) := by
      have := of_decide_eq_true (show decide (isW (by' s (IntKind.i64.wrap ((m : Int) - 2)).toNat)) = true from g)
      rwa [e2'] at this
    intro _; refine ⟨show 0 ≤ (m : Int) ∧ (m : Int) < (s.length : Int) by omega, ?_⟩
    intro _
    refine call_pure [] (isW_ok (by' s (m : Int).toNat) (by_range _ _)) rfl rfl rfl ?_ ?_ ?_
    · (repeat' first | exact trivial | exact rfl | refine And.intro ?_ ?_)
    · (repeat' first | exact trivial | exact rfl | refine And.intro ?_ ?_)
    intro v hv _
    subst hv
    intro _; refine ⟨fun g => ?_, fun g => ?_⟩
    · have hB := of_decide_eq_true (show decide (BG s (m - 1)) = true from g)
      intro _; refine ⟨by rw [e1]; omega, ?_⟩
      intro _
      refine call_pure [] (follow_ok (BF s (m - 1)) (by' s (IntKind.i64.wrap ((m : Int) - 1)).toNat) (by_range _ _) (by omega)) rfl rfl rfl ?_ ?_ ?_
      · (repeat' first | exact trivial | exact rfl | refine And.intro ?_ ?_)
      · (repeat' first | exact trivial | exact rfl | refine And.intro ?_ ?_)
      intro v hv _
      subst hv
      intro _; refine ⟨fun g => ?_, fun g => ?_⟩
      · have hPL : PL bf bh kp s m := (PL45 g2).2 ⟨by omega, g4, of_decide_eq_true (show decide (isW (by' s (m : Int).toNat)) = true from g)⟩
        rw [if_pos ⟨h1, hPL⟩] at ls
        intro _
        refine yield_ok tt_ok ?_
        intro _; refine ⟨rfl, ?_⟩
        intro _; refine ⟨fun g3 => by simp at g3, fun _ => ?_⟩
        refine ⟨⟨rfl, show (lst bf bh kp s m).length + 1 ≤ 4611686018427387904 by omega, show ((lst bf bh kp s m).length + 1) * 16 ≤ 140737488355328 by omega⟩, ?_⟩
        intro _
        refine ⟨⟨m + 1, by omega, by omega⟩, by simp only []; omega, th [(9, some 13)] 10, rfl, rfl, rfl, rfl, rfl, rfl, ?_, ?_⟩
        · (repeat' first | exact trivial | exact rfl | refine And.intro ?_ ?_)
          · exact (wrap_nat m (by omega)).symm
          · exact (decide_eq_true (BG_of m hB))
          · exact eBF
        · (repeat' first | exact trivial | exact rfl | refine And.intro ?_ ?_)
          · rw [ls, List.length_append]; (repeat' first | exact trivial | exact rfl | refine And.intro ?_ ?_)
          · rw [ls, hHY]; (repeat' first | exact trivial | exact rfl | refine And.intro ?_ ?_)
      have hPL : ¬ PL bf bh kp s m := fun q => of_decide_eq_false (show decide (isW (by' s (m : Int).toNat)) = false from g) ((PL45 g2).1 q).2.2
      rw [if_neg (fun q => hPL q.2), List.append_nil] at ls
      refine ⟨⟨m + 1, by omega, by omega⟩, by simp only []; omega, th [] 10, rfl, rfl, rfl, rfl, rfl, rfl, ?_, ?_⟩
      · (repeat' first | exact trivial | exact rfl | refine And.intro ?_ ?_)
        · exact (wrap_nat m (by omega)).symm
        · exact (decide_eq_true (BG_of m hB))
        · exact eBF
      · (repeat' first | exact trivial | exact rfl | refine And.intro ?_ ?_)
        all_goals (rw [ls]; (repeat' first | exact trivial | exact rfl | refine And.intro ?_ ?_))
    have hB := of_decide_eq_false (show decide (BG s (m - 1)) = false from g)
    have hBt := BG_no m hB h1 e1'
    intro _; refine ⟨by rw [e1]; omega, ?_⟩
    intro _; refine ⟨by rw [e1]; omega, ?_⟩
    intro _
    refine call_pure [] (follow_ok (BF s (m - 1)) (by' s (IntKind.i64.wrap ((m : Int) - 1)).toNat) (by_range _ _) (by omega)) rfl rfl rfl ?_ ?_ ?_
    · (repeat' first | exact trivial | exact rfl | refine And.intro ?_ ?_)
    · (repeat' first | exact trivial | exact rfl | refine And.intro ?_ ?_)
    intro v hv _
    subst hv
    intro _; refine ⟨fun g => ?_, fun g => ?_⟩
    · have hPL : PL bf bh kp s m := (PL45 g2).2 ⟨by omega, g4, of_decide_eq_true (show decide (isW (by' s (m : Int).toNat)) = true from g)⟩
      rw [if_pos ⟨h1, hPL⟩] at ls
      intro _
      refine yield_ok tt_ok ?_
      intro _; refine ⟨rfl, ?_⟩
      intro _; refine ⟨fun g3 => by simp at g3, fun _ => ?_⟩
      refine ⟨⟨rfl, show (lst bf bh kp s m).length + 1 ≤ 4611686018427387904 by omega, show ((lst bf bh kp s m).length + 1) * 16 ≤ 140737488355328 by omega⟩, ?_⟩
      intro _
      refine ⟨⟨m + 1, by omega, by omega⟩, by simp only []; omega, th [(9, some 13)] 10, rfl, rfl, rfl, rfl, rfl, rfl, ?_, ?_⟩
      · (repeat' first | exact trivial | exact rfl | refine And.intro ?_ ?_)
        · exact (wrap_nat m (by omega)).symm
        · exact hBt
        · exact eBF
      · (repeat' first | exact trivial | exact rfl | refine And.intro ?_ ?_)
        · rw [ls, List.length_append]; (repeat' first | exact trivial | exact rfl | refine And.intro ?_ ?_)
        · rw [ls, hHY]; (repeat' first | exact trivial | exact rfl | refine And.intro ?_ ?_)
    have hPL : ¬ PL bf bh kp s m := fun q => of_decide_eq_false (show decide (isW (by' s (m : Int).toNat)) = false from g) ((PL45 g2).1 q).2.2
    rw [if_neg (fun q => hPL q.2), List.append_nil] at ls
    refine ⟨⟨m + 1, by omega, by omega⟩, by simp only []; omega, th [] 10, rfl, rfl, rfl, rfl, rfl, rfl, ?_, ?_⟩
    · (repeat' first | exact trivial | exact rfl | refine And.intro ?_ ?_)
      · exact (wrap_nat m (by omega)).symm
      · exact hBt
      · exact eBF
    · (repeat' first | exact trivial | exact rfl | refine And.intro ?_ ?_)
      all_goals (rw [ls]; (repeat' first | exact trivial | exact rfl | refine And.intro ?_ ?_))
  have g2 : ¬ by' s (m - 1) = 45 := by
    have := beq_eq_false_iff_ne.1 (show (by' s (IntKind.i64.wrap ((m : Int) - 1)).toNat == 45) = false from g)
    rwa [e1'] at this
  intro _; refine ⟨fun g => ?_, fun g => ?_⟩
  rotate_left
  · have g3 : ¬ by' s (m - 1) = 126 := by
      have := beq_eq_false_iff_ne.1 (show (by' s (IntKind.i64.wrap ((m : Int) - 1)).toNat == 126) = false from g)
      rwa [e1'] at this
    have hPL : ¬ PL bf bh kp s m := PLno g1 g2 g3
    intro _; refine ⟨fun g => ?_, fun g => ?_⟩
    · have hB := of_decide_eq_true (show decide (BG s (m - 1)) = true from g)
      intro _; refine ⟨by rw [e1]; omega, ?_⟩
      intro _
      refine call_pure [] (follow_ok (BF s (m - 1)) (by' s (IntKind.i64.wrap ((m : Int) - 1)).toNat) (by_range _ _) (by omega)) rfl rfl rfl ?_ ?_ ?_
      · (repeat' first | exact trivial | exact rfl | refine And.intro ?_ ?_)
      · (repeat' first | exact trivial | exact rfl | refine And.intro ?_ ?_)
      intro v hv _
      subst hv
      rw [if_neg (fun q => hPL q.2), List.append_nil] at ls
      refine ⟨⟨m + 1, by omega, by omega⟩, by simp only []; omega, th [] 10, rfl, rfl, rfl, rfl, rfl, rfl, ?_, ?_⟩
      · (repeat' first | exact trivial | exact rfl | refine And.intro ?_ ?_)
        · exact (wrap_nat m (by omega)).symm
        · exact (decide_eq_true (BG_of m hB))
        · exact eBF
      · (repeat' first | exact trivial | exact rfl | refine And.intro ?_ ?_)
        all_goals (rw [ls]; (repeat' first | exact trivial | exact rfl | refine And.intro ?_ ?_))
    have hB := of_decide_eq_false (show decide (BG s (m - 1)) = false from g)
    have hBt := BG_no m hB h1 e1'
    intro _; refine ⟨by rw [e1]; omega, ?_⟩
    intro _; refine ⟨by rw [e1]; omega, ?_⟩
    intro _
    refine call_pure [] (follow_ok (BF s (m - 1)) (by' s (IntKind.i64.wrap ((m : Int) - 1)).toNat) (by_range _ _) (by omega)) rfl rfl rfl ?_ ?_ ?_
    · (repeat' first | exact trivial | exact rfl | refine And.intro ?_ ?_)
    · (repeat' first | exact trivial | exact rfl | refine And.intro ?_ ?_)
    intro v hv _
    subst hv
    rw [if_neg (fun q => hPL q.2), List.append_nil] at ls
    refine ⟨⟨m + 1, by omega, by omega⟩, by simp only []; omega, th [] 10, rfl, rfl, rfl, rfl, rfl, rfl, ?_, ?_⟩
    · (repeat' first | exact trivial | exact rfl | refine And.intro ?_ ?_)
      · exact (wrap_nat m (by omega)).symm
      · exact hBt
      · exact eBF
    · (repeat' first | exact trivial | exact rfl | refine And.intro ?_ ?_)
      all_goals (rw [ls]; (repeat' first | exact trivial | exact rfl | refine And.intro ?_ ?_))
  have g3 : by' s (m - 1) = 126 := by
    have := eq_of_beq (show (by' s (IntKind.i64.wrap ((m : Int) - 1)).toNat == 126) = true from g)
    rwa [e1'] at this
  have hHY : decide (HY s m) = true := decide_eq_true g3
  intro _; refine ⟨fun g => ?_, fun g => ?_⟩
  rotate_left
  · have g4 := of_decide_eq_false (show decide ((m : Int) > 1) = false from g)
    have hPL : ¬ PL bf bh kp s m := fun q => by have := ((PL126 g3).1 q).1; omega
    intro _; refine ⟨by kernel_rfl, ?_⟩
    intro _; refine ⟨fun g => ?_, fun g => ?_⟩
    · have hB := of_decide_eq_true (show decide (BG s (m - 1)) = true from g)
      intro _; refine ⟨by rw [e1]; omega, ?_⟩
      intro _
      refine call_pure [] (follow_ok (BF s (m - 1)) (by' s (IntKind.i64.wrap ((m : Int) - 1)).toNat) (by_range _ _) (by omega)) rfl rfl rfl ?_ ?_ ?_
      · (repeat' first | exact trivial | exact rfl | refine And.intro ?_ ?_)
      · (repeat' first | exact trivial | exact rfl | refine And.intro ?_ ?_)
      intro v hv _
      subst hv
      rw [if_neg (fun q => hPL q.2), List.append_nil] at ls
      refine ⟨⟨m + 1, by omega, by omega⟩, by simp only []; omega, th [] 10, rfl, rfl, rfl, rfl, rfl, rfl, ?_, ?_⟩
      · (repeat' first | exact trivial | exact rfl | refine And.intro ?_ ?_)
        · exact (wrap_nat m (by omega)).symm
        · exact (decide_eq_true (BG_of m hB))
        · exact eBF
      · (repeat' first | exact trivial | exact rfl | refine And.intro ?_ ?_)
        all_goals (rw [ls]; (repeat' first | exact trivial | exact rfl | refine And.intro ?_ ?_))
    have hB := of_decide_eq_false (show decide (BG s (m - 1)) = false from g)
    have hBt := BG_no m hB h1 e1'
    intro _; refine ⟨by rw [e1]; omega, ?_⟩
    intro _; refine ⟨by rw [e1]; omega, ?_⟩
    intro _
    refine call_pure [] (follow_ok (BF s (m - 1)) (by' s (IntKind.i64.wrap ((m : Int) - 1)).toNat) (by_range _ _) (by omega)) rfl rfl rfl ?_ ?_ ?_
    · (repeat' first | exact trivial | exact rfl | refine And.intro ?_ ?_)
    · (repeat' first | exact trivial | exact rfl | refine And.intro ?_ ?_)
    intro v hv _
    subst hv
    rw [if_neg (fun q => hPL q.2), List.append_nil] at ls
    refine ⟨⟨m + 1, by omega, by omega⟩, by simp only []; omega, th [] 10, rfl, rfl, rfl, rfl, rfl, rfl, ?_, ?_⟩
    · (repeat' first | exact trivial | exact rfl | refine And.intro ?_ ?_)
      · exact (wrap_nat m (by omega)).symm
      · exact hBt
      · exact eBF
    · (repeat' first | exact trivial | exact rfl | refine And.intro ?_ ?_)
      all_goals (rw [ls]; (repeat' first | exact trivial | exact rfl | refine And.intro ?_ ?_))
  have g4 := of_decide_eq_true (show decide ((m : Int) > 1) = true from g)
  have e2 : IntKind.i64.wrap ((m : Int) - 2) = ((m - 2 : Nat) : Int) := by rw [wrapS _ ⟨by omega, by omega⟩]; omega
  have e2' : (IntKind.i64.wrap ((m : Int) - 2)).toNat = m - 2 := by rw [e2]; omega
  intro _; refine ⟨by rw [e2]; omega, ?_⟩
  intro _
  refine Or.inl ?_
  intro _
  refine call_pure [] (isL_ok (by' s (IntKind.i64.wrap ((m : Int) - 2)).toNat) (by_range _ _)) rfl rfl rfl ?_ ?_ ?_
  · (repeat' first | exact trivial | exact rfl | refine And.intro ?_ ?_)
  · (repeat' first | exact trivial | exact rfl | refine And.intro ?_ ?_)
  intro v hv _
  subst hv
  intro _; refine ⟨fun g => ?_, fun g => ?_⟩
  rotate_left
  · have g5 : ¬ isL (by' s (m - 2)) := by
      have := of_decide_eq_false (show decide (isL (by' s (IntKind.i64.wrap ((m : Int) - 2)).toNat)) = false from g)
      rwa [e2'] at this
    have hPL : ¬ PL bf bh kp s m := fun q => g5 ((PL126 g3).1 q).2.1
    intro _; refine ⟨by kernel_rfl, ?_⟩
    intro _; refine ⟨fun g => ?_, fun g => ?_⟩
    · have hB := of_decide_eq_true (show decide (BG s (m - 1)) = true from g)
      intro _; refine ⟨by rw [e1]; omega, ?_⟩
      intro _
      refine call_pure [] (follow_ok (BF s (m - 1)) (by' s (IntKind.i64.wrap ((m : Int) - 1)).toNat) (by_range _ _) (by omega)) rfl rfl rfl ?_ ?_ ?_
      · (repeat' first | exact trivial | exact rfl | refine And.intro ?_ ?_)
      · (repeat' first | exact trivial | exact rfl | refine And.intro ?_ ?_)
      intro v hv _
      subst hv
      rw [if_neg (fun q => hPL q.2), List.append_nil] at ls
      refine ⟨⟨m + 1, by omega, by omega⟩, by simp only []; omega, th [] 10, rfl, rfl, rfl, rfl, rfl, rfl, ?_, ?_⟩
      · (repeat' first | exact trivial | exact rfl | refine And.intro ?_ ?_)
        · exact (wrap_nat m (by omega)).symm
        · exact (decide_eq_true (BG_of m hB))
        · exact eBF
      · (repeat' first | exact trivial | exact rfl | refine And.intro ?_ ?_)
        all_goals (rw [ls]; (repeat' first | exact trivial | exact rfl | refine And.intro ?_ ?_))
    have hB := of_decide_eq_false (show decide (BG s (m - 1)) = false from g)
    have hBt := BG_no m hB h1 e1'
    intro _; refine ⟨by rw [e1]; omega, ?_⟩
    intro _; refine ⟨by rw [e1]; omega, ?_⟩
    intro _
    refine call_pure [] (follow_ok (BF s (m - 1)) (by' s (IntKind.i64.wrap ((m : Int) - 1)).toNat) (by_range _ _) (by omega)) rfl rfl rfl ?_ ?_ ?_
    · (repeat' first | exact trivial | exact rfl | refine And.intro ?_ ?_)
    · (repeat' first | exact trivial | exact rfl | refine And.intro ?_ ?_)
    intro v hv _
    subst hv
    rw [if_neg (fun q => hPL q.2), List.append_nil] at ls
    refine ⟨⟨m + 1, by omega, by omega⟩, by simp only []; omega, th [] 10, rfl, rfl, rfl, rfl, rfl, rfl, ?_, ?_⟩
    · (repeat' first | exact trivial | exact rfl | refine And.intro ?_ ?_)
      · exact (wrap_nat m (by omega)).symm
      · exact hBt
      · exact eBF
    · (repeat' first | exact trivial | exact rfl | refine And.intro ?_ ?_)
      all_goals (rw [ls]; (repeat' first | exact trivial | exact rfl | refine And.intro ?_ ?_))
  have g5 : isL (by' s (m - 2)) := by
    have := of_decide_eq_true (show decide (isL (by' s (IntKind.i64.wrap ((m : Int) - 2)).toNat)) = true from g)
    rwa [e2'] at this
  intro _; refine ⟨fun g => ?_, fun g => ?_⟩
  rotate_left
  · have g6 := of_decide_eq_false (show decide (BF s (m - 1) ≥ bf) = false from g)
    have hPL : ¬ PL bf bh kp s m := fun q => by have := ((PL126 g3).1 q).2.2.1; omega
    intro _; refine ⟨by kernel_rfl, ?_⟩
    intro _; refine ⟨fun g => ?_, fun g => ?_⟩
    · have hB := of_decide_eq_true (show decide (BG s (m - 1)) = true from g)
      intro _; refine ⟨by rw [e1]; omega, ?_⟩
      intro _
      refine call_pure [] (follow_ok (BF s (m - 1)) (by' s (IntKind.i64.wrap ((m : Int) - 1)).toNat) (by_range _ _) (by omega)) rfl rfl rfl ?_ ?_ ?_
      · (repeat' first | exact trivial | exact rfl | refine And.intro ?_ ?_)
      · (repeat' first | exact trivial | exact rfl | refine And.intro ?_ ?_)
      intro v hv _
      subst hv
      rw [if_neg (fun q => hPL q.2), List.append_nil] at ls
      refine ⟨⟨m + 1, by omega, by omega⟩, by simp only []; omega, th [] 10, rfl, rfl, rfl, rfl, rfl, rfl, ?_, ?_⟩
      · (repeat' first | exact trivial | exact rfl | refine And.intro ?_ ?_)
        · exact (wrap_nat m (by omega)).symm
        · exact (decide_eq_true (BG_of m hB))
        · exact eBF
      · (repeat' first | exact trivial | exact rfl | refine And.intro ?_ ?_)
        all_goals (rw [ls]; (repeat' first | exact trivial | exact rfl | refine And.intro ?_ ?_))
    have hB := of_decide_eq_false (show decide (BG s (m - 1)) = false from g)
    have hBt := BG_no m hB h1 e1'
    intro _; refine ⟨by rw [e1]; omega, ?_⟩
    intro _; refine ⟨by rw [e1]; omega, ?_⟩
    intro _
    refine call_pure [] (follow_ok (BF s (m - 1)) (by' s (IntKind.i64.wrap ((m : Int) - 1)).toNat) (by_range _ _) (by omega)) rfl rfl rfl ?_ ?_ ?_
    · (repeat' first | exact trivial | exact rfl | refine And.intro ?_ ?_)
    · (repeat' first | exact trivial | exact rfl | refine And.intro ?_ ?_)
    intro v hv _
    subst hv
    rw [if_neg (fun q => hPL q.2), List.append_nil] at ls
    refine ⟨⟨m + 1, by omega, by omega⟩, by simp only []; omega, th [] 10, rfl, rfl, rfl, rfl, rfl, rfl, ?_, ?_⟩
    · (repeat' first | exact trivial | exact rfl | refine And.intro ?_ ?_)
      · exact (wrap_nat m (by omega)).symm
      · exact hBt
      · exact eBF
    · (repeat' first | exact trivial | exact rfl | refine And.intro ?_ ?_)
      all_goals (rw [ls]; (repeat' first | exact trivial | exact rfl | refine And.intro ?_ ?_))
  have g6 := of_decide_eq_true (show decide (BF s (m - 1) ≥ bf) = true from g)
  have eg : (mk (s.length + 1) (FB s)).getD (m : Int).toNat 0 = FB s m := by rw [Int.toNat_natCast, mk_get _ (by omega)]
  intro _; refine ⟨show 0 ≤ (m : Int) ∧ (m : Int) < ((s.length + 1 : Nat) : Int) by omega, ?_⟩
  intro _; refine ⟨show (m : Int).toNat < (mk (s.length + 1) (FB s)).length by rw [hFL]; omega, ?_⟩
  intro _; refine ⟨fun g => ?_, fun g => ?_⟩
  rotate_left
  · have g7 := of_decide_eq_false (show decide ((mk (s.length + 1) (FB s)).getD (m : Int).toNat 0 ≥ bh) = false from g)
    rw [eg] at g7
    have hPL : ¬ PL bf bh kp s m := fun q => by have := ((PL126 g3).1 q).2.2.2.1; omega
    intro _; refine ⟨by kernel_rfl, ?_⟩
    intro _; refine ⟨fun g => ?_, fun g => ?_⟩
    · have hB := of_decide_eq_true (show decide (BG s (m - 1)) = true from g)
      intro _; refine ⟨by rw [e1]; omega, ?_⟩
      intro _
      refine call_pure [] (follow_ok (BF s (m - 1)) (by' s (IntKind.i64.wrap ((m : Int) - 1)).toNat) (by_range _ _) (by omega)) rfl rfl rfl ?_ ?_ ?_
      · (repeat' first | exact trivial | exact rfl | refine And.intro ?_ ?_)
      · (repeat' first | exact trivial | exact rfl | refine And.intro ?_ ?_)
      intro v hv _
      subst hv
      rw [if_neg (fun q => hPL q.2), List.append_nil] at ls
      refine ⟨⟨m + 1, by omega, by omega⟩, by simp only []; omega, th [] 10, rfl, rfl, rfl, rfl, rfl, rfl, ?_, ?_⟩
      · (repeat' first | exact trivial | exact rfl | refine And.intro ?_ ?_)
        · exact (wrap_nat m (by omega)).symm
        · exact (decide_eq_true (BG_of m hB))
        · exact eBF
      · (repeat' first | exact trivial | exact rfl | refine And.intro ?_ ?_)
        all_goals (rw [ls]; (repeat' first | exact trivial | exact rfl | refine And.intro ?_ ?_))
    have hB := of_decide_eq_false (show decide (BG s (m - 1)) = false from g)
    have hBt := BG_no m hB h1 e1'
    intro _; refine ⟨by rw [e1]; omega, ?_⟩
    intro _; refine ⟨by rw [e1]; omega, ?_⟩
    intro _
    refine call_pure [] (follow_ok (BF s (m - 1)) (by' s (IntKind.i64.wrap ((m : Int) - 1)).toNat) (by_range _ _) (by omega)) rfl rfl rfl ?_ ?_ ?_
    · (repeat' first | exact trivial | exact rfl | refine And.intro ?_ ?_)
    · (repeat' first | exact trivial | exact rfl | refine And.intro ?_ ?_)
    intro v hv _
    subst hv
    rw [if_neg (fun q => hPL q.2), List.append_nil] at ls
    refine ⟨⟨m + 1, by omega, by omega⟩, by simp only []; omega, th [] 10, rfl, rfl, rfl, rfl, rfl, rfl, ?_, ?_⟩
    · (repeat' first | exact trivial | exact rfl | refine And.intro ?_ ?_)
      · exact (wrap_nat m (by omega)).symm
      · exact hBt
      · exact eBF
    · (repeat' first | exact trivial | exact rfl | refine And.intro ?_ ?_)
      all_goals (rw [ls]; (repeat' first | exact trivial | exact rfl | refine And.intro ?_ ?_))
  have g7 := of_decide_eq_true (show decide ((mk (s.length + 1) (FB s)).getD (m : Int).toNat 0 ≥ bh) = true from g)
  rw [eg] at g7
  have hbh := hVB.2.1.1
  have eD : (s.drop (m : Int).toNat).take ((s.length : Int).toNat - (m : Int).toNat) = s.drop m := by
    rw [Int.toNat_natCast, Int.toNat_natCast]; exact List.take_of_length_le (by simp)
  have eY : flr ((s.drop (m : Int).toNat).take ((s.length : Int).toNat - (m : Int).toNat)) = fy s m := by
    rw [eD]; exact flr_fy _ m (Nat.le_refl _) (by omega)
  have eK : (((mfindS (SM kp kp.length) ([by' s (IntKind.i64.wrap ((m : Int) - 2)).toNat, flr ((s.drop (m : Int).toNat).take ((s.length : Int).toNat - (m : Int).toNat))].map fun n : Int => UInt8.ofNat n.toNat)).getD [.b false]).getD 0 (.n 0)).bool = true ↔ inK kp (by' s (m - 2)) (fy s m) := by
    rw [SM_in, inS_inK hVB (by_range _ _) (flr_bd _), eY, e2']
  intro _; refine ⟨by rw [e2]; omega, ?_⟩
  intro _; refine ⟨show 0 ≤ (m : Int) ∧ (m : Int) ≤ (s.length : Int) ∧ (s.length : Int) ≤ (s.length : Int) by omega, ?_⟩
  intro _
  refine Or.inl ?_
  intro _
  refine call_pure [] (first_ok ((s.drop (m : Int).toNat).take ((s.length : Int).toNat - (m : Int).toNat)) (by rw [eD]; simp; omega)) rfl rfl rfl ?_ ?_ ?_
  · (repeat' first | exact trivial | exact rfl | refine And.intro ?_ ?_)
  · (repeat' first | exact trivial | exact rfl | refine And.intro ?_ ?_)
  intro v hv _
  subst hv
  intro _; refine ⟨rfl, ?_⟩
  intro _; refine ⟨by kernel_rfl, ?_⟩
  intro _; refine ⟨fun g => ?_, fun g => ?_⟩
  · have hB := of_decide_eq_true (show decide (BG s (m - 1)) = true from g)
    intro _; refine ⟨by rw [e1]; omega, ?_⟩
    intro _
    refine call_pure [] (follow_ok (BF s (m - 1)) (by' s (IntKind.i64.wrap ((m : Int) - 1)).toNat) (by_range _ _) (by omega)) rfl rfl rfl ?_ ?_ ?_
    · (repeat' first | exact trivial | exact rfl | refine And.intro ?_ ?_)
    · (repeat' first | exact trivial | exact rfl | refine And.intro ?_ ?_)
    intro v hv _
    subst hv
    intro _; refine ⟨fun g => ?_, fun g => ?_⟩
    · have hPL : PL bf bh kp s m := (PL126 g3).2 ⟨by omega, g5, g6, g7, fun q => by have h := show (!(((mfindS (SM kp kp.length) ([by' s (IntKind.i64.wrap ((m : Int) - 2)).toNat, flr ((s.drop (m : Int).toNat).take ((s.length : Int).toNat - (m : Int).toNat))].map fun n : Int => UInt8.ofNat n.toNat)).getD [.b false]).getD 0 (.n 0)).bool) = true from g; rw [Bool.not_eq_true', Bool.eq_false_iff] at h; exact h (eK.2 q)⟩
      rw [if_pos ⟨h1, hPL⟩] at ls
      intro _
      refine yield_ok tt_ok ?_
      intro _; refine ⟨rfl, ?_⟩
      intro _; refine ⟨fun g3 => by simp at g3, fun _ => ?_⟩
      refine ⟨⟨rfl, show (lst bf bh kp s m).length + 1 ≤ 4611686018427387904 by omega, show ((lst bf bh kp s m).length + 1) * 16 ≤ 140737488355328 by omega⟩, ?_⟩
      intro _
      refine ⟨⟨m + 1, by omega, by omega⟩, by simp only []; omega, th [(9, some 14)] 10, rfl, rfl, rfl, rfl, rfl, rfl, ?_, ?_⟩
      · (repeat' first | exact trivial | exact rfl | refine And.intro ?_ ?_)
        · exact (wrap_nat m (by omega)).symm
        · exact (decide_eq_true (BG_of m hB))
        · exact eBF
      · (repeat' first | exact trivial | exact rfl | refine And.intro ?_ ?_)
        · rw [ls, List.length_append]; (repeat' first | exact trivial | exact rfl | refine And.intro ?_ ?_)
        · rw [ls, hHY]; (repeat' first | exact trivial | exact rfl | refine And.intro ?_ ?_)
    have hPL : ¬ PL bf bh kp s m := fun q => by have h := show (!(((mfindS (SM kp kp.length) ([by' s (IntKind.i64.wrap ((m : Int) - 2)).toNat, flr ((s.drop (m : Int).toNat).take ((s.length : Int).toNat - (m : Int).toNat))].map fun n : Int => UInt8.ofNat n.toNat)).getD [.b false]).getD 0 (.n 0)).bool) = false from g; rw [Bool.not_eq_false'] at h; exact ((PL126 g3).1 q).2.2.2.2 (eK.1 h)
    rw [if_neg (fun q => hPL q.2), List.append_nil] at ls
    refine ⟨⟨m + 1, by omega, by omega⟩, by simp only []; omega, th [] 10, rfl, rfl, rfl, rfl, rfl, rfl, ?_, ?_⟩
    · (repeat' first | exact trivial | exact rfl | refine And.intro ?_ ?_)
      · exact (wrap_nat m (by omega)).symm
      · exact (decide_eq_true (BG_of m hB))
      · exact eBF
    · (repeat' first | exact trivial | exact rfl | refine And.intro ?_ ?_)
      all_goals (rw [ls]; (repeat' first | exact trivial | exact rfl | refine And.intro ?_ ?_))
  have hB := of_decide_eq_false (show decide (BG s (m - 1)) = false from g)
  have hBt := BG_no m hB h1 e1'
  intro _; refine ⟨by rw [e1]; omega, ?_⟩
  intro _; refine ⟨by rw [e1]; omega, ?_⟩
  intro _
  refine call_pure [] (follow_ok (BF s (m - 1)) (by' s (IntKind.i64.wrap ((m : Int) - 1)).toNat) (by_range _ _) (by omega)) rfl rfl rfl ?_ ?_ ?_
  · (repeat' first | exact trivial | exact rfl | refine And.intro ?_ ?_)
  · (repeat' first | exact trivial | exact rfl | refine And.intro ?_ ?_)
  intro v hv _
  subst hv
  intro _; refine ⟨fun g => ?_, fun g => ?_⟩
  · have hPL : PL bf bh kp s m := (PL126 g3).2 ⟨by omega, g5, g6, g7, fun q => by have h := show (!(((mfindS (SM kp kp.length) ([by' s (IntKind.i64.wrap ((m : Int) - 2)).toNat, flr ((s.drop (m : Int).toNat).take ((s.length : Int).toNat - (m : Int).toNat))].map fun n : Int => UInt8.ofNat n.toNat)).getD [.b false]).getD 0 (.n 0)).bool) = true from g; rw [Bool.not_eq_true', Bool.eq_false_iff] at h; exact h (eK.2 q)⟩
    rw [if_pos ⟨h1, hPL⟩] at ls
    intro _
    refine yield_ok tt_ok ?_
    intro _; refine ⟨rfl, ?_⟩
    intro _; refine ⟨fun g3 => by simp at g3, fun _ => ?_⟩
    refine ⟨⟨rfl, show (lst bf bh kp s m).length + 1 ≤ 4611686018427387904 by omega, show ((lst bf bh kp s m).length + 1) * 16 ≤ 140737488355328 by omega⟩, ?_⟩
    intro _
    refine ⟨⟨m + 1, by omega, by omega⟩, by simp only []; omega, th [(9, some 14)] 10, rfl, rfl, rfl, rfl, rfl, rfl, ?_, ?_⟩
    · (repeat' first | exact trivial | exact rfl | refine And.intro ?_ ?_)
      · exact (wrap_nat m (by omega)).symm
      · exact hBt
      · exact eBF
    · (repeat' first | exact trivial | exact rfl | refine And.intro ?_ ?_)
      · rw [ls, List.length_append]; (repeat' first | exact trivial | exact rfl | refine And.intro ?_ ?_)
      · rw [ls, hHY]; (repeat' first | exact trivial | exact rfl | refine And.intro ?_ ?_)
  have hPL : ¬ PL bf bh kp s m := fun q => by have h := show (!(((mfindS (SM kp kp.length) ([by' s (IntKind.i64.wrap ((m : Int) - 2)).toNat, flr ((s.drop (m : Int).toNat).take ((s.length : Int).toNat - (m : Int).toNat))].map fun n : Int => UInt8.ofNat n.toNat)).getD [.b false]).getD 0 (.n 0)).bool) = false from g; rw [Bool.not_eq_false'] at h; exact ((PL126 g3).1 q).2.2.2.2 (eK.1 h)
  rw [if_neg (fun q => hPL q.2), List.append_nil] at ls
  refine ⟨⟨m + 1, by omega, by omega⟩, by simp only []; omega, th [] 10, rfl, rfl, rfl, rfl, rfl, rfl, ?_, ?_⟩
  · (repeat' first | exact trivial | exact rfl | refine And.intro ?_ ?_)
    · exact (wrap_nat m (by omega)).symm
    · exact hBt
    · exact eBF
  · (repeat' first | exact trivial | exact rfl | refine And.intro ?_ ?_)
    all_goals (rw [ls]; (repeat' first | exact trivial | exact rfl | refine And.intro ?_ ?_))
set_option maxRecDepth 100000
def cI (d : List D) (j : Nat) : Int := (d.getD j (.n 0)).int
def cB (d : List D) (j : Nat) : Bool := (d.getD j (.n 0)).bool
theorem ne0 : ¬ ((0 : Int) != 0) = true := by decide
def US (bf bh : Int) (kp : LD) (s : List UInt8) : Prop := (s.length : Int) ≤ 300 ∧ VB bf bh kp ∧ VA s
instance decUS (bf bh : Int) (kp : LD) (s : List UInt8) : Decidable (US bf bh kp s) := inferInstanceAs (Decidable (_ ∧ _))
theorem usable_ok (bf bh : Int) (kp : LD) (s : List UInt8) (hl : s.length ≤ 9223372036854775807) : SemF Try.prog 18 [.agg [.int .i64 bf, .int .i64 bh, .slc 0 1 0 kp.length], .str s] ⟨1, 1, [(0, .arr [.str] .rd (.recs kp))]⟩ (fun v _ => v = .test (decide (US bf bh kp s)) ∧ nameless v = true) := by
  refine SemF.test ?_
  refine enter tt_ok Try.func18 (nt := 16) (cd := body Try.f18) rfl rfl rfl rfl ?_
  intro _; refine ⟨fun g => ?_, fun g => ?_⟩
  rotate_left
  · have g := of_decide_eq_false (show decide ((s.length : Int) ≤ 300) = false from g)
    intro _
    exact ⟨false, .inl rfl, by rw [decide_eq_false (fun h : US bf bh kp s => g h.1)], rfl⟩
  have g1 := of_decide_eq_true (show decide ((s.length : Int) ≤ 300) = true from g)
  intro _
  refine call_pure [(0, some 0)] (rValid_ok bf bh kp) rfl rfl rfl ?_ ?_ ?_
  · (repeat' first | exact trivial | exact rfl | refine And.intro ?_ ?_)
  · (repeat' first | exact trivial | exact rfl | refine And.intro ?_ ?_)
  intro v hv _
  subst hv
  intro _; refine ⟨fun g => ?_, fun g => ?_⟩
  rotate_left
  · have g := of_decide_eq_false (show decide (VB bf bh kp) = false from g)
    intro _
    exact ⟨false, .inl rfl, by rw [decide_eq_false (fun h : US bf bh kp s => g h.2.1)], rfl⟩
  have g2 := of_decide_eq_true (show decide (VB bf bh kp) = true from g)
  intro _
  refine call_pure [] (rvalid_ok s hl) rfl rfl rfl ?_ ?_ ?_
  · (repeat' first | exact trivial | exact rfl | refine And.intro ?_ ?_)
  · (repeat' first | exact trivial | exact rfl | refine And.intro ?_ ?_)
  intro v hv _
  subst hv
  intro _
  refine ⟨decide (VA s), .inr rfl, ?_, rfl⟩
  congr 1
  exact decide_eq_decide.2 ⟨fun h => ⟨g1, g2, h⟩, fun h => h.2.2⟩
/-! lists of places -/
def SameR (x y : LD) : Prop := x.length = y.length ∧ ∀ i, i < x.length → cI (x.getD i []) 0 = cI (y.getD i []) 0 ∧ cB (x.getD i []) 1 = cB (y.getD i []) 1
instance decSameR (x y : LD) : Decidable (SameR x y) := inferInstanceAs (Decidable (_ ∧ ∀ i, i < x.length → _))
theorem SameR_refl (x : LD) : SameR x x := ⟨rfl, fun _ _ => ⟨rfl, rfl⟩⟩
theorem same_ok (x y : LD) (hx : x.length ≤ 1000000) (hy : y.length ≤ 1000000) : SemF Try.prog 14 [.slc 0 2 0 x.length, .slc 1 2 0 y.length] ⟨2, 2, [(0, .arr [.int .i64, .bool] .rd (.recs x)), (1, .arr [.int .i64, .bool] .rd (.recs y))]⟩ (fun v _ => v = .test (decide (SameR x y)) ∧ nameless v = true) := by
  refine SemF.test ?_
  refine enter tt_ok Try.func14 (nt := 26) (cd := body Try.f14) rfl rfl rfl rfl ?_
  intro _; refine ⟨fun g => ?_, fun g => ?_⟩
  · have g : ((x.length : Int) != (y.length : Int)) = true := g
    rw [bne_iff_ne] at g
    intro _
    exact ⟨false, .inl rfl, by rw [decide_eq_false (fun h : SameR x y => g (by rw [h.1]))], rfl⟩
  have g0 : ((x.length : Int) != (y.length : Int)) = false := g
  rw [bne_eq_false_iff_eq] at g0
  intro _
  refine loop2 tt_ok [5] [] 2 (fun i : { i : Nat // i ≤ x.length ∧ ∀ j, j < i → cI (x.getD j []) 0 = cI (y.getD j []) 0 ∧ cB (x.getD j []) 1 = cB (y.getD j []) 1 } => [(5, .int .i64 (i.1 : Nat))]) (fun _ => []) (fun i => x.length - i.1) ⟨0, by omega, fun j hj => by omega⟩ ?_
  intro _
  refine ⟨⟨th [] 2, rfl, rfl, rfl, rfl, rfl, rfl, ?_, ?_⟩, ?_⟩
  · (repeat' first | exact trivial | exact rfl | refine And.intro ?_ ?_)
  · (repeat' first | exact trivial | exact rfl | refine And.intro ?_ ?_)
  intro ⟨i, h1, h2⟩
  intro _; refine ⟨fun g => ?_, fun g => ?_⟩
  rotate_left
  · have g := of_decide_eq_false (show decide ((i : Int) < (x.length : Int)) = false from g)
    intro _
    exact ⟨true, .inl rfl, by rw [decide_eq_true (show SameR x y from ⟨by omega, fun j hj => h2 j (by omega)⟩)], rfl⟩
  have g := of_decide_eq_true (show decide ((i : Int) < (x.length : Int)) = true from g)
  have ei : 0 + (i : Int).toNat = i := by omega
  intro _; refine ⟨show 0 ≤ (i : Int) ∧ (i : Int) < (x.length : Int) by omega, ?_⟩
  intro _; refine ⟨show 0 + (i : Int).toNat < x.length by omega, ?_⟩
  intro _; refine ⟨show 0 ≤ (i : Int) ∧ (i : Int) < (y.length : Int) by omega, ?_⟩
  intro _; refine ⟨show 0 + (i : Int).toNat < y.length by omega, ?_⟩
  intro _; refine ⟨by kernel_rfl, ?_⟩
  intro _; refine ⟨fun g => ?_, fun g => ?_⟩
  · have g2 : (!((cI (x.getD (0 + (i : Int).toNat) []) 0 == cI (y.getD (0 + (i : Int).toNat) []) 0) && (cB (x.getD (0 + (i : Int).toNat) []) 1 == cB (y.getD (0 + (i : Int).toNat) []) 1))) = true := g
    rw [ei, Bool.not_eq_true'] at g2
    intro _
    refine ⟨false, .inl rfl, ?_, rfl⟩
    rw [decide_eq_false (fun h : SameR x y => ?_)]
    obtain ⟨p, q⟩ := h.2 i (by omega)
    rw [p, q] at g2
    simp at g2
  have g2 : (!((cI (x.getD (0 + (i : Int).toNat) []) 0 == cI (y.getD (0 + (i : Int).toNat) []) 0) && (cB (x.getD (0 + (i : Int).toNat) []) 1 == cB (y.getD (0 + (i : Int).toNat) []) 1))) = false := g
  rw [ei, Bool.not_eq_false', Bool.and_eq_true] at g2
  refine ⟨⟨i + 1, by omega, step_all h2 ⟨eq_of_beq g2.1, eq_of_beq g2.2⟩⟩, by simp only []; omega, th [] 2, rfl, rfl, rfl, rfl, rfl, rfl, ?_, ?_⟩
  · (repeat' first | exact trivial | exact rfl | refine And.intro ?_ ?_)
    exact (wrap_nat i (by omega)).symm
  · (repeat' first | exact trivial | exact rfl | refine And.intro ?_ ?_)
def row (s : List UInt8) (a : Nat) : List D := [.n (a : Int), .b (decide (HY s a))]
theorem lst_row {bf bh : Int} {kp : LD} {s : List UInt8} : ∀ (m i : Nat), i < List.length (lst bf bh kp s m) → ∃ a, 1 ≤ a ∧ a < m ∧ PL bf bh kp s a ∧ (lst bf bh kp s m).getD i [] = row s a
  | 0, i, h => by simp [lst] at h
  | m + 1, i, h => by
    have ls : lst bf bh kp s (m + 1) = lst bf bh kp s m ++ (if 1 ≤ m ∧ PL bf bh kp s m then [row s m] else []) := rfl
    rw [ls] at h ⊢
    rcases Nat.lt_or_ge i (lst bf bh kp s m).length with q | q
    · obtain ⟨a, a1, a2, a3, a4⟩ := lst_row (bf := bf) (bh := bh) (kp := kp) (s := s) m i q
      refine ⟨a, a1, by omega, a3, ?_⟩
      rw [List.getD_eq_getElem?_getD, List.getElem?_append_left q, ← List.getD_eq_getElem?_getD]
      exact a4
    · by_cases c : 1 ≤ m ∧ PL bf bh kp s m
      · rw [if_pos c] at h ⊢
        have hi : i = (lst bf bh kp s m).length := by simp at h; omega
        refine ⟨m, c.1, by omega, c.2, ?_⟩
        rw [List.getD_eq_getElem?_getD, List.getElem?_append_right q, hi, Nat.sub_self]
        rfl
      · rw [if_neg c] at h
        simp at h; omega
theorem lst_inc {bf bh : Int} {kp : LD} {s : List UInt8} : ∀ (m i : Nat), i + 1 < List.length (lst bf bh kp s m) → cI ((lst bf bh kp s m).getD i []) 0 < cI ((lst bf bh kp s m).getD (i + 1) []) 0
  | 0, i, h => by simp [lst] at h
  | m + 1, i, h => by
    have ls : lst bf bh kp s (m + 1) = lst bf bh kp s m ++ (if 1 ≤ m ∧ PL bf bh kp s m then [row s m] else []) := rfl
    rw [ls] at h ⊢
    rcases Nat.lt_or_ge (i + 1) (lst bf bh kp s m).length with q | q
    · have := lst_inc (bf := bf) (bh := bh) (kp := kp) (s := s) m i q
      rw [List.getD_eq_getElem?_getD, List.getElem?_append_left (by omega), ← List.getD_eq_getElem?_getD, List.getD_eq_getElem?_getD (i := i + 1), List.getElem?_append_left q, ← List.getD_eq_getElem?_getD]
      exact this
    · by_cases c : 1 ≤ m ∧ PL bf bh kp s m
      · rw [if_pos c] at h ⊢
        have hi : i + 1 = (lst bf bh kp s m).length := by simp at h; omega
        obtain ⟨a, a1, a2, a3, a4⟩ := lst_row (bf := bf) (bh := bh) (kp := kp) (s := s) m i (by omega)
        rw [List.getD_eq_getElem?_getD, List.getElem?_append_left (by omega), ← List.getD_eq_getElem?_getD, a4, List.getD_eq_getElem?_getD, List.getElem?_append_right q, hi, Nat.sub_self]
        show (a : Int) < (m : Int)
        omega
      · rw [if_neg c] at h
        simp at h; omega
theorem PL_by {bf bh : Int} {kp : LD} {s : List UInt8} {a : Nat} (h : PL bf bh kp s a) (hb : 1 ≤ bh) (ha : a < s.length) : (by' s (a - 1) = 32 ∨ by' s (a - 1) = 45 ∨ by' s (a - 1) = 126) ∧ by' s a ≠ 32 := by
  rcases h with h | h | h
  · exact ⟨.inl h.1, h.2.2⟩
  · refine ⟨.inr (.inl h.1), fun e => ?_⟩
    have := h.2.2.2
    rw [e] at this
    unfold isW at this; revert this; decide
  · refine ⟨.inr (.inr h.1), fun e => ?_⟩
    have := h.2.2.2.2.1
    rw [FB_step s ha, e] at this
    unfold fo at this
    rw [if_neg (by unfold isL; decide), if_neg (by decide)] at this
    omega
set_option maxHeartbeats 1000000 in
theorem law4 (bf bh : Int) (kp : LD) (s : List UInt8) (hl : s.length ≤ 9223372036854775807) : SemF Try.prog 4 [.agg [.int .i64 bf, .int .i64 bh, .slc 0 1 0 kp.length], .str s] ⟨1, 1, [(0, .arr [.str] .ro (.recs kp))]⟩ (fun v _ => IsTrue v) := by
  refine enter tt_ok Try.func4 (nt := 80) (cd := body Try.f4) rfl rfl rfl rfl ?_
  intro _
  refine head_ok rfl Try.func9 (cd := body Try.f9) rfl ?_
  intro _
  refine call_pure [(0, some 0)] (usable_ok bf bh kp s hl) rfl rfl rfl ?_ ?_ ?_
  · (repeat' first | exact trivial | exact rfl | refine And.intro ?_ ?_)
  · (repeat' first | exact trivial | exact rfl | refine And.intro ?_ ?_)
  intro v hv _
  subst hv
  intro _; refine ⟨fun g => ?_, fun g => ?_⟩
  · intro _
    rfl
  have g : (!decide (US bf bh kp s)) = false := g
  rw [Bool.not_eq_false'] at g
  obtain ⟨hs3, hVB, hVA⟩ := of_decide_eq_true g
  have xE : LE bf bh kp s = 0 := by unfold LE; rw [if_pos ⟨hVB, hVA⟩]
  have xS : LS bf bh kp s = lst bf bh kp s s.length := by unfold LS; rw [if_pos ⟨hVB, hVA⟩]
  have hLl := lst_len bf bh kp s s.length
  rw [← xS] at hLl
  intro _
  refine call_new [(0, some 0)] (List_ok bf bh kp s hl) rfl rfl rfl rfl ?_ ?_ ?_
  · (repeat' first | exact trivial | exact rfl | refine And.intro ?_ ?_)
  · (repeat' first | exact trivial | exact rfl | refine And.intro ?_ ?_)
  intro v h' hv
  obtain ⟨rfl, rfl⟩ := hv
  refine ⟨[(2, some 1)], 3, [(2, .arr [.int .i64, .bool] .grow (.recs (LS bf bh kp s)))], .tup [.grw 2 (LS bf bh kp s).length, .int .i64 (LE bf bh kp s)], rfl, rfl, rfl, rfl, rfl, ?_, ?_, ?_⟩
  · (repeat' first | exact trivial | exact rfl | refine And.intro ?_ ?_)
  · (repeat' first | exact trivial | exact rfl | refine And.intro ?_ ?_)
  intro _
  refine loop2 tt_ok [9, 8] [] 3 (fun i : { i : Nat // i ≤ (LS bf bh kp s).length } => [(9, .int .i64 (i.1 : Nat)), (8, .int .i64 (if i.1 = 0 then 0 else cI ((LS bf bh kp s).getD (i.1 - 1) []) 0))]) (fun _ => []) (fun i => (LS bf bh kp s).length - i.1) ⟨0, by omega⟩ ?_
  intro _
  refine ⟨⟨th [] 3, rfl, rfl, rfl, rfl, rfl, rfl, ?_, ?_⟩, ?_⟩
  · (repeat' first | exact trivial | exact rfl | refine And.intro ?_ ?_)
  · (repeat' first | exact trivial | exact rfl | refine And.intro ?_ ?_)
  intro ⟨i, h1⟩
  intro _; refine ⟨fun g => ?_, fun g => ?_⟩
  rotate_left
  · intro _
    show (LE bf bh kp s == 0) = true
    rw [xE]; rfl
  have g := of_decide_eq_true (show decide ((i : Int) < ((LS bf bh kp s).length : Int)) = true from g)
  obtain ⟨a, a1, a2, a3, a4⟩ := lst_row (bf := bf) (bh := bh) (kp := kp) (s := s) s.length i (by rw [← xS]; omega)
  rw [← xS] at a4
  have ea : cI ((LS bf bh kp s).getD (i : Int).toNat []) 0 = (a : Int) := by rw [Int.toNat_natCast, a4]; rfl
  have eh : cB ((LS bf bh kp s).getD (i : Int).toNat []) 1 = decide (HY s a) := by rw [Int.toNat_natCast, a4]; rfl
  obtain ⟨hc, hn⟩ := PL_by a3 hVB.2.1.1 a2
  have ew : IntKind.i64.wrap (cI ((LS bf bh kp s).getD (i : Int).toNat []) 0 - 1) = ((a - 1 : Nat) : Int) := by rw [ea, wrapS _ ⟨by omega, by omega⟩]; omega
  have ew' : (IntKind.i64.wrap (cI ((LS bf bh kp s).getD (i : Int).toNat []) 0 - 1)).toNat = a - 1 := by rw [ew]; omega
  have ea' : (cI ((LS bf bh kp s).getD (i : Int).toNat []) 0).toNat = a := by rw [ea]; omega
  intro _; refine ⟨show 0 ≤ (i : Int) ∧ (i : Int) < ((LS bf bh kp s).length : Int) by omega, ?_⟩
  intro _; refine ⟨show (i : Int).toNat < (LS bf bh kp s).length by omega, ?_⟩
  intro _; refine ⟨fun g => ?_, fun g => ?_⟩
  · exfalso
    have g2 := of_decide_eq_true (show decide (cI ((LS bf bh kp s).getD (i : Int).toNat []) 0 ≤ (if i = 0 then 0 else cI ((LS bf bh kp s).getD (i - 1) []) 0)) = true from g)
    rw [ea] at g2
    split at g2
    · omega
    · rename_i hi
      have := lst_inc (bf := bf) (bh := bh) (kp := kp) (s := s) s.length (i - 1) (by rw [← xS]; omega)
      rw [← xS, show i - 1 + 1 = i by omega, a4] at this
      have this : _ < (a : Int) := this
      omega
  intro _; refine ⟨fun g => ?_, fun g => ?_⟩
  · exfalso
    have g2 := of_decide_eq_true (show decide (cI ((LS bf bh kp s).getD (i : Int).toNat []) 0 ≥ (s.length : Int)) = true from g)
    rw [ea] at g2; omega
  intro _; refine ⟨show 0 ≤ IntKind.i64.wrap (cI ((LS bf bh kp s).getD (i : Int).toNat []) 0 - 1) ∧ IntKind.i64.wrap (cI ((LS bf bh kp s).getD (i : Int).toNat []) 0 - 1) < (s.length : Int) by rw [ew]; omega, ?_⟩
  have fin : ((⟨i + 1, by omega⟩ : { i : Nat // i ≤ (LS bf bh kp s).length }).1 = i + 1) := rfl
  intro _; refine ⟨fun g => ?_, fun g => ?_⟩
  · have g1 := bne_iff_ne.1 (show (by' s (IntKind.i64.wrap (cI ((LS bf bh kp s).getD (i : Int).toNat []) 0 - 1)).toNat != 32) = true from g)
    rw [ew'] at g1
    intro _; refine ⟨fun g => ?_, fun g => ?_⟩
    · have g2 := bne_iff_ne.1 (show (by' s (IntKind.i64.wrap (cI ((LS bf bh kp s).getD (i : Int).toNat []) 0 - 1)).toNat != 45) = true from g)
      rw [ew'] at g2
      intro _; refine ⟨fun g => ?_, fun g => ?_⟩
      · exfalso
        have g3 := bne_iff_ne.1 (show (by' s (IntKind.i64.wrap (cI ((LS bf bh kp s).getD (i : Int).toNat []) 0 - 1)).toNat != 126) = true from g)
        rw [ew'] at g3
        omega
      intro _; refine ⟨show 0 ≤ (i : Int) ∧ (i : Int) < ((LS bf bh kp s).length : Int) by omega, ?_⟩
      intro _; refine ⟨show (i : Int).toNat < (LS bf bh kp s).length by omega, ?_⟩
      intro _; refine ⟨fun g => ?_, fun g => ?_⟩
      · exfalso
        have g5 : (!(cB ((LS bf bh kp s).getD (i : Int).toNat []) 1 == (by' s (IntKind.i64.wrap (cI ((LS bf bh kp s).getD (i : Int).toNat []) 0 - 1)).toNat == 126))) = true := g
        rw [eh, ew', Bool.not_eq_true'] at g5
        have : decide (HY s a) = (by' s (a - 1) == 126) := by
          by_cases q : HY s a
          · rw [decide_eq_true q, show by' s (a - 1) = 126 from q]; rfl
          · rw [decide_eq_false q]; exact (beq_eq_false_iff_ne.2 q).symm
        rw [this] at g5
        simp at g5
      intro _; refine ⟨show 0 ≤ cI ((LS bf bh kp s).getD (i : Int).toNat []) 0 ∧ cI ((LS bf bh kp s).getD (i : Int).toNat []) 0 < (s.length : Int) by rw [ea]; omega, ?_⟩
      intro _; refine ⟨fun g => ?_, fun g => ?_⟩
      · exfalso
        have g6 := eq_of_beq (show (by' s (cI ((LS bf bh kp s).getD (i : Int).toNat []) 0).toNat == 32) = true from g)
        rw [ea'] at g6
        exact hn g6
      refine ⟨⟨i + 1, by omega⟩, by simp only []; omega, th [] 3, rfl, rfl, rfl, rfl, rfl, rfl, ?_, ?_⟩
      · (repeat' first | exact trivial | exact rfl | refine And.intro ?_ ?_)
        exact (wrap_nat i (by omega)).symm
      · (repeat' first | exact trivial | exact rfl | refine And.intro ?_ ?_)
    intro _; refine ⟨show 0 ≤ (i : Int) ∧ (i : Int) < ((LS bf bh kp s).length : Int) by omega, ?_⟩
    intro _; refine ⟨show (i : Int).toNat < (LS bf bh kp s).length by omega, ?_⟩
    intro _; refine ⟨fun g => ?_, fun g => ?_⟩
    · exfalso
      have g5 : (!(cB ((LS bf bh kp s).getD (i : Int).toNat []) 1 == (by' s (IntKind.i64.wrap (cI ((LS bf bh kp s).getD (i : Int).toNat []) 0 - 1)).toNat == 126))) = true := g
      rw [eh, ew', Bool.not_eq_true'] at g5
      have : decide (HY s a) = (by' s (a - 1) == 126) := by
        by_cases q : HY s a
        · rw [decide_eq_true q, show by' s (a - 1) = 126 from q]; rfl
        · rw [decide_eq_false q]; exact (beq_eq_false_iff_ne.2 q).symm
      rw [this] at g5
      simp at g5
    intro _; refine ⟨show 0 ≤ cI ((LS bf bh kp s).getD (i : Int).toNat []) 0 ∧ cI ((LS bf bh kp s).getD (i : Int).toNat []) 0 < (s.length : Int) by rw [ea]; omega, ?_⟩
    intro _; refine ⟨fun g => ?_, fun g => ?_⟩
    · exfalso
      have g6 := eq_of_beq (show (by' s (cI ((LS bf bh kp s).getD (i : Int).toNat []) 0).toNat == 32) = true from g)
      rw [ea'] at g6
      exact hn g6
    refine ⟨⟨i + 1, by omega⟩, by simp only []; omega, th [] 3, rfl, rfl, rfl, rfl, rfl, rfl, ?_, ?_⟩
    · (repeat' first | exact trivial | exact rfl | refine And.intro ?_ ?_)
      exact (wrap_nat i (by omega)).symm
    · (repeat' first | exact trivial | exact rfl | refine And.intro ?_ ?_)
  intro _; refine ⟨show 0 ≤ (i : Int) ∧ (i : Int) < ((LS bf bh kp s).length : Int) by omega, ?_⟩
  intro _; refine ⟨show (i : Int).toNat < (LS bf bh kp s).length by omega, ?_⟩
  intro _; refine ⟨fun g => ?_, fun g => ?_⟩
  · exfalso
    have g5 : (!(cB ((LS bf bh kp s).getD (i : Int).toNat []) 1 == (by' s (IntKind.i64.wrap (cI ((LS bf bh kp s).getD (i : Int).toNat []) 0 - 1)).toNat == 126))) = true := g
    rw [eh, ew', Bool.not_eq_true'] at g5
    have : decide (HY s a) = (by' s (a - 1) == 126) := by
      by_cases q : HY s a
      · rw [decide_eq_true q, show by' s (a - 1) = 126 from q]; rfl
      · rw [decide_eq_false q]; exact (beq_eq_false_iff_ne.2 q).symm
    rw [this] at g5
    simp at g5
  intro _; refine ⟨show 0 ≤ cI ((LS bf bh kp s).getD (i : Int).toNat []) 0 ∧ cI ((LS bf bh kp s).getD (i : Int).toNat []) 0 < (s.length : Int) by rw [ea]; omega, ?_⟩
  intro _; refine ⟨fun g => ?_, fun g => ?_⟩
  · exfalso
    have g6 := eq_of_beq (show (by' s (cI ((LS bf bh kp s).getD (i : Int).toNat []) 0).toNat == 32) = true from g)
    rw [ea'] at g6
    exact hn g6
  refine ⟨⟨i + 1, by omega⟩, by simp only []; omega, th [] 3, rfl, rfl, rfl, rfl, rfl, rfl, ?_, ?_⟩
  · (repeat' first | exact trivial | exact rfl | refine And.intro ?_ ?_)
    exact (wrap_nat i (by omega)).symm
  · (repeat' first | exact trivial | exact rfl | refine And.intro ?_ ?_)
set_option maxRecDepth 100000
/-! two texts with a blank between them -/
section
variable (s t : List UInt8)
def jo : List UInt8 := (s ++ [32]) ++ t
theorem jo_len : (jo s t).length = s.length + 1 + t.length := by simp [jo]; omega
theorem jo_l {i : Nat} (h : i < s.length) : by' (jo s t) i = by' s i := by
  unfold by' jo
  rw [List.getD_eq_getElem?_getD, List.getElem?_append_left (by simp; omega), List.getElem?_append_left h, ← List.getD_eq_getElem?_getD]
theorem jo_m : by' (jo s t) s.length = 32 := by
  unfold by' jo
  rw [List.getD_eq_getElem?_getD, List.getElem?_append_left (by simp), List.getElem?_append_right (Nat.le_refl _), Nat.sub_self]
  try rfl
theorem jo_r (j : Nat) : by' (jo s t) (s.length + 1 + j) = by' t j := by
  unfold by' jo
  rw [List.getD_eq_getElem?_getD, List.getElem?_append_right (by simp), List.getD_eq_getElem?_getD]
  rw [show s.length + 1 + j - (s ++ ([32] : List UInt8)).length = j by simp]
theorem fo_32 (n : Int) : fo n 32 = 0 := by
  unfold fo
  rw [if_neg (by unfold isL; decide), if_neg (by decide)]
theorem jo_BF : ∀ m, m ≤ s.length → BF (jo s t) m = BF s m
  | 0, _ => rfl
  | m + 1, h => by simp only [BF]; rw [jo_BF m (by omega), jo_l s t (by omega)]
theorem jo_BF2 : ∀ m, BF (jo s t) (s.length + 1 + m) = BF t m
  | 0 => by
    show fo _ _ = 0
    rw [jo_m, fo_32]
  | m + 1 => by
    rw [← Nat.add_assoc]
    simp only [BF]; rw [jo_BF2 m, jo_r]
theorem jo_FBk : ∀ d, d ≤ t.length → FBk (jo s t) d = FBk t d
  | 0, _ => rfl
  | d + 1, h => by
    simp only [FBk]
    rw [jo_FBk d (by omega), jo_len, show s.length + 1 + t.length - (d + 1) = s.length + 1 + (t.length - (d + 1)) by omega, jo_r]
theorem jo_FB2 {j : Nat} (h : j ≤ t.length) : FB (jo s t) (s.length + 1 + j) = FB t j := by
  unfold FB
  rw [jo_len, show s.length + 1 + t.length - (s.length + 1 + j) = t.length - j by omega, jo_FBk s t _ (by omega)]
theorem jo_FBm : FB (jo s t) s.length = 0 := by
  rw [FB_step _ (by rw [jo_len]; omega), jo_m, fo_32]
theorem jo_FB : ∀ (d j : Nat), j + d = s.length → FB (jo s t) j = FB s j
  | 0, j, h => by
    have : j = s.length := by omega
    subst this
    rw [jo_FBm, FB_end s (Nat.le_refl _)]
  | d + 1, j, h => by
    rw [FB_step _ (by rw [jo_len]; omega), FB_step s (by omega), jo_l s t (by omega), jo_FB d (j + 1) (by omega)]
theorem jo_FYk : ∀ d, d ≤ t.length → FYk (jo s t) d = FYk t d
  | 0, _ => rfl
  | d + 1, h => by
    simp only [FYk]
    rw [jo_FYk d (by omega), jo_len, show s.length + 1 + t.length - (d + 1) = s.length + 1 + (t.length - (d + 1)) by omega, jo_r]
theorem jo_fy2 {j : Nat} (h : j ≤ t.length) : fy (jo s t) (s.length + 1 + j) = fy t j := by
  unfold fy
  rw [jo_len, show s.length + 1 + t.length - (s.length + 1 + j) = t.length - j by omega, jo_FYk s t _ (by omega)]
theorem jo_fy : ∀ (d j : Nat), j + d = s.length → fy (jo s t) j = fy s j
  | 0, j, h => by
    have : j = s.length := by omega
    subst this
    rw [fy_step _ (by rw [jo_len]; omega), jo_m, if_neg (by unfold isL; decide), if_neg (by decide), fy_end s (Nat.le_refl _)]
  | d + 1, j, h => by
    rw [fy_step _ (by rw [jo_len]; omega), fy_step s (by omega), jo_l s t (by omega), jo_fy d (j + 1) (by omega)]
theorem jo_BG {m : Nat} (h : m ≤ s.length) : BG (jo s t) m ↔ BG s m :=
  ⟨fun ⟨j, a, b⟩ => ⟨j, a, by rwa [jo_l s t (by omega)] at b⟩, fun ⟨j, a, b⟩ => ⟨j, a, by rwa [jo_l s t (by omega)]⟩⟩
end
section
variable {s t : List UInt8} {bf bh : Int} {kp : LD} (hn : 1 ≤ s.length) (hs : by' s (s.length - 1) ≠ 32) (ht : by' t 0 ≠ 32) (hb : 1 ≤ bh)
include hn hs in
theorem jo_BG1 {m : Nat} (h : s.length ≤ m) : BG (jo s t) m := ⟨s.length - 1, by omega, by rwa [jo_l s t (by omega)]⟩
theorem jo_PL {a : Nat} (h1 : 1 ≤ a) (h : a < s.length) : PL bf bh kp (jo s t) a ↔ PL bf bh kp s a := by
  unfold PL
  rw [jo_l s t (by omega), jo_l s t h, jo_BG s t (by omega), jo_BF s t _ (by omega), jo_FB s t (s.length - a) a (by omega), jo_fy s t (s.length - a) a (by omega), jo_l s t (i := a - 2) (by omega)]
include hn hs hb in
theorem jo_PLm : ¬ PL bf bh kp (jo s t) s.length := fun h => by
  rcases h with h | h | h
  · rw [jo_l s t (by omega)] at h; exact hs h.1
  · have := h.2.2.2
    rw [jo_m] at this
    unfold isW at this; revert this; decide
  · have := h.2.2.2.2.1
    rw [jo_FBm] at this; omega
include hn hs ht in
theorem jo_PL1 : PL bf bh kp (jo s t) (s.length + 1) :=
  .inl ⟨by rw [Nat.add_sub_cancel]; exact jo_m s t, by rw [Nat.add_sub_cancel]; exact jo_BG1 hn hs (Nat.le_refl _), by have := jo_r s t 0; rw [Nat.add_zero] at this; rw [this]; exact ht⟩
include hn hs ht in
theorem jo_PL2 {c : Nat} (h1 : 1 ≤ c) (h : c < t.length) : PL bf bh kp (jo s t) (s.length + 1 + c) ↔ PL bf bh kp t c := by
  have e1 : s.length + 1 + c - 1 = s.length + 1 + (c - 1) := by omega
  unfold PL
  rw [e1, jo_r, jo_r, jo_BF2, jo_FB2 s t (by omega), jo_fy2 s t (by omega)]
  have hB : BG (jo s t) (s.length + 1 + (c - 1)) := jo_BG1 hn hs (by omega)
  have h2 : 2 ≤ s.length + 1 + c := by omega
  have k32 : (by' t (c - 1) = 32 ∧ BG (jo s t) (s.length + 1 + (c - 1)) ∧ by' t c ≠ 32) ↔ (by' t (c - 1) = 32 ∧ BG t (c - 1) ∧ by' t c ≠ 32) := by
    refine ⟨fun q => ⟨q.1, ⟨0, ?_, ht⟩, q.2.2⟩, fun q => ⟨q.1, hB, q.2.2⟩⟩
    rcases Nat.eq_zero_or_pos (c - 1) with w | w
    · rw [w] at q; exact absurd q.1 ht
    · exact w
  rw [k32]
  rcases Nat.lt_or_ge c 2 with w | w
  · have hc : c = 1 := by omega
    subst hc
    have e3 : s.length + 1 + 1 - 2 = s.length := by omega
    rw [e3, jo_m]
    have n1 : ¬ isW 32 := by unfold isW; decide
    have n2 : ¬ isL 32 := by unfold isL; decide
    have n3 : ¬ 2 ≤ 1 := by omega
    simp only [n1, n2, n3, false_and, and_false]
  · have e3 : s.length + 1 + c - 2 = s.length + 1 + (c - 2) := by omega
    rw [e3, jo_r]
    simp only [h2, w, true_and]
def shr (n : Nat) (r : List D) : List D := [.n (cI r 0 + n + 1), .b (cB r 1)]
theorem jo_lst : ∀ m, m ≤ s.length → lst bf bh kp (jo s t) m = lst bf bh kp s m
  | 0, _ => rfl
  | m + 1, h => by
    simp only [lst]
    rw [jo_lst m (by omega)]
    congr 1
    rcases Nat.eq_zero_or_pos m with q | q
    · subst q; rw [if_neg (by omega), if_neg (by omega)]
    · have e : decide (HY (jo s t) m) = decide (HY s m) := decide_eq_decide.2 (by unfold HY; rw [jo_l s t (by omega)])
      by_cases c : PL bf bh kp s m
      · rw [if_pos ⟨q, (jo_PL q (by omega)).2 c⟩, if_pos ⟨q, c⟩, e]
      · rw [if_neg (fun w => c ((jo_PL q (by omega)).1 w.2)), if_neg (fun w => c w.2)]
include hn hs ht hb in
theorem jo_lst2 : ∀ m, 1 ≤ m → m ≤ t.length → lst bf bh kp (jo s t) (s.length + 1 + m) = lst bf bh kp s s.length ++ [[D.n ((s.length : Int) + 1), D.b false]] ++ (lst bf bh kp t m).map (shr s.length)
  | 0, h, _ => by omega
  | m + 1, _, h => by
    rw [← Nat.add_assoc]
    simp only [lst]
    rcases Nat.eq_zero_or_pos m with q | q
    · subst q
      simp only [lst, Nat.add_zero]
      rw [jo_lst _ (Nat.le_refl _), if_neg (fun w => jo_PLm hn hs hb w.2), if_pos ⟨by omega, jo_PL1 hn hs ht⟩, if_neg (by omega)]
      have : decide (HY (jo s t) (s.length + 1)) = false := decide_eq_false (by unfold HY; rw [Nat.add_sub_cancel, jo_m]; decide)
      rw [this]
      simp
    · rw [jo_lst2 m q (by omega), List.map_append, ← List.append_assoc]
      congr 1
      have e : decide (HY (jo s t) (s.length + 1 + m)) = decide (HY t m) := decide_eq_decide.2 (by unfold HY; rw [show s.length + 1 + m - 1 = s.length + 1 + (m - 1) by omega, jo_r])
      by_cases c : PL bf bh kp t m
      · rw [if_pos ⟨by omega, (jo_PL2 hn hs ht q (by omega)).2 c⟩, if_pos ⟨q, c⟩, e]
        simp only [List.map_cons, List.map_nil, shr, cI, cB, List.getD_cons_zero, D.int]
        rw [show ((s.length + 1 + m : Nat) : Int) = (m : Int) + s.length + 1 by omega]
        rfl
      · rw [if_neg (fun w => c ((jo_PL2 hn hs ht q (by omega)).1 w.2)), if_neg (fun w => c w.2)]
        rfl
end
theorem VA_mem {s : List UInt8} : VA s ↔ s.length ≤ 2000 ∧ ∀ b ∈ s, cl (b.toNat : Int) ≠ 0 := by
  unfold VA
  refine ⟨fun h => ⟨h.1, fun b hb => ?_⟩, fun h => ⟨h.1, fun i hi => h.2 _ (by rw [List.getD_eq_getElem?_getD, List.getElem?_eq_getElem hi]; exact List.getElem_mem hi)⟩⟩
  obtain ⟨j, hj, rfl⟩ := List.getElem_of_mem hb
  have := h.2 j hj
  unfold by' at this
  rwa [show s.getD j 0 = s[j] by rw [List.getD_eq_getElem?_getD, List.getElem?_eq_getElem hj]; rfl] at this
theorem VA_jo {s t : List UInt8} (h : VA (jo s t)) : VA s ∧ VA t := by
  rw [VA_mem, jo_len] at h
  refine ⟨VA_mem.2 ⟨by omega, fun b hb => h.2 b (by unfold jo; simp [hb])⟩, VA_mem.2 ⟨by omega, fun b hb => h.2 b (by unfold jo; simp [hb])⟩⟩
set_option maxHeartbeats 2000000 in
theorem law8 (bf bh : Int) (kp : LD) (s t : List UInt8) (hl : s.length ≤ 4611686018427387903) (hl2 : t.length ≤ 4611686018427387903) : SemF Try.prog 8 [.agg [.int .i64 bf, .int .i64 bh, .slc 0 1 0 kp.length], .str s, .str t] ⟨1, 1, [(0, .arr [.str] .ro (.recs kp))]⟩ (fun v _ => IsTrue v) := by
  refine enter tt_ok Try.func8 (nt := 118) (cd := body Try.f8) rfl rfl rfl rfl ?_
  intro _
  refine head_ok rfl Try.func9 (cd := body Try.f9) rfl ?_
  have hjl := jo_len s t
  intro _; refine ⟨show s.length + 1 ≤ 9223372036854775807 by omega, ?_⟩
  intro _; refine ⟨show (s ++ [32]).length + t.length ≤ 9223372036854775807 by simp; omega, ?_⟩
  intro _
  refine call_pure [(0, some 0)] (usable_ok bf bh kp (jo s t) (by omega)) rfl rfl rfl ?_ ?_ ?_
  · (repeat' first | exact trivial | exact rfl | refine And.intro ?_ ?_)
  · (repeat' first | exact trivial | exact rfl | refine And.intro ?_ ?_)
  intro v hv _
  subst hv
  intro _; refine ⟨fun g => ?_, fun g => ?_⟩
  · intro _
    rfl
  have g : (!decide (US bf bh kp (jo s t))) = false := g
  rw [Bool.not_eq_false'] at g
  obtain ⟨hs3, hVB, hVJ⟩ := of_decide_eq_true g
  obtain ⟨hVS, hVT⟩ := VA_jo hVJ
  intro _; refine ⟨fun g => ?_, fun g => ?_⟩
  · intro _
    rfl
  have hsn : s ≠ [] := beq_eq_false_iff_ne.1 (show (s == []) = false from g)
  have hn : 1 ≤ s.length := by
    cases s with
    | nil => exact absurd rfl hsn
    | cons => simp
  intro _; refine ⟨fun g => ?_, fun g => ?_⟩
  · intro _
    rfl
  have htn : t ≠ [] := beq_eq_false_iff_ne.1 (show (t == []) = false from g)
  have hm : 1 ≤ t.length := by
    cases t with
    | nil => exact absurd rfl htn
    | cons => simp
  have e1 : IntKind.i64.wrap ((s.length : Int) - 1) = ((s.length - 1 : Nat) : Int) := by rw [wrapS _ ⟨by omega, by omega⟩]; omega
  have e1' : (IntKind.i64.wrap ((s.length : Int) - 1)).toNat = s.length - 1 := by rw [e1]; omega
  intro _; refine ⟨by rw [e1]; omega, ?_⟩
  intro _; refine ⟨fun g => ?_, fun g => ?_⟩
  · intro _
    rfl
  have hS : by' s (s.length - 1) ≠ 32 := by
    have := beq_eq_false_iff_ne.1 (show (by' s (IntKind.i64.wrap ((s.length : Int) - 1)).toNat == 32) = false from g)
    rwa [e1'] at this
  intro _; refine ⟨show 0 ≤ (0 : Int) ∧ (0 : Int) < (t.length : Int) by omega, ?_⟩
  intro _; refine ⟨fun g => ?_, fun g => ?_⟩
  · intro _
    rfl
  have hT : by' t 0 ≠ 32 := beq_eq_false_iff_ne.1 (show (by' t 0 == 32) = false from g)
  have hb := hVB.2.1.1
  have xS : LS bf bh kp s = lst bf bh kp s s.length := by unfold LS; rw [if_pos ⟨hVB, hVS⟩]
  have xT : LS bf bh kp t = lst bf bh kp t t.length := by unfold LS; rw [if_pos ⟨hVB, hVT⟩]
  have xJ : LS bf bh kp (jo s t) = lst bf bh kp (jo s t) (s.length + 1 + t.length) := by unfold LS; rw [if_pos ⟨hVB, hVJ⟩, hjl]
  have yS : LE bf bh kp s = 0 := by unfold LE; rw [if_pos ⟨hVB, hVS⟩]
  have yT : LE bf bh kp t = 0 := by unfold LE; rw [if_pos ⟨hVB, hVT⟩]
  have yJ : LE bf bh kp (jo s t) = 0 := by unfold LE; rw [if_pos ⟨hVB, hVJ⟩]
  have key : LS bf bh kp (jo s t) = LS bf bh kp s ++ [[D.n ((s.length : Int) + 1), D.b false]] ++ (LS bf bh kp t).map (shr s.length) := by
    rw [xS, xT, xJ]; exact jo_lst2 hn hS hT hb t.length hm (Nat.le_refl _)
  have l1 := lst_len bf bh kp s s.length
  have l2 := lst_len bf bh kp t t.length
  have l3 := lst_len bf bh kp (jo s t) (s.length + 1 + t.length)
  rw [← xS] at l1
  rw [← xT] at l2
  rw [← xJ] at l3
  have es1 : IntKind.i64.wrap ((s.length : Int) + 1) = (s.length : Int) + 1 := wrapS _ ⟨by omega, by omega⟩
  intro _
  refine call_new [(0, some 0)] (List_ok bf bh kp s (by omega)) rfl rfl rfl rfl ?_ ?_ ?_
  · (repeat' first | exact trivial | exact rfl | refine And.intro ?_ ?_)
  · (repeat' first | exact trivial | exact rfl | refine And.intro ?_ ?_)
  intro v h' hv
  obtain ⟨rfl, rfl⟩ := hv
  refine ⟨[(2, some 1)], 3, [(2, .arr [.int .i64, .bool] .grow (.recs (LS bf bh kp s)))], .tup [.grw 2 (LS bf bh kp s).length, .int .i64 (LE bf bh kp s)], rfl, rfl, rfl, rfl, rfl, ?_, ?_, ?_⟩
  · (repeat' first | exact trivial | exact rfl | refine And.intro ?_ ?_)
  · (repeat' first | exact trivial | exact rfl | refine And.intro ?_ ?_)
  intro _
  refine call_new [(0, some 0)] (List_ok bf bh kp t (by omega)) rfl rfl rfl rfl ?_ ?_ ?_
  · (repeat' first | exact trivial | exact rfl | refine And.intro ?_ ?_)
  · (repeat' first | exact trivial | exact rfl | refine And.intro ?_ ?_)
  intro v h' hv
  obtain ⟨rfl, rfl⟩ := hv
  refine ⟨[(3, some 1)], 4, [(3, .arr [.int .i64, .bool] .grow (.recs (LS bf bh kp t)))], .tup [.grw 3 (LS bf bh kp t).length, .int .i64 (LE bf bh kp t)], rfl, rfl, rfl, rfl, rfl, ?_, ?_, ?_⟩
  · (repeat' first | exact trivial | exact rfl | refine And.intro ?_ ?_)
  · (repeat' first | exact trivial | exact rfl | refine And.intro ?_ ?_)
  intro _
  refine call_new [(0, some 0)] (List_ok bf bh kp (jo s t) (by omega)) rfl rfl rfl rfl ?_ ?_ ?_
  · (repeat' first | exact trivial | exact rfl | refine And.intro ?_ ?_)
  · (repeat' first | exact trivial | exact rfl | refine And.intro ?_ ?_)
  intro v h' hv
  obtain ⟨rfl, rfl⟩ := hv
  refine ⟨[(4, some 1)], 5, [(4, .arr [.int .i64, .bool] .grow (.recs (LS bf bh kp (jo s t))))], .tup [.grw 4 (LS bf bh kp (jo s t)).length, .int .i64 (LE bf bh kp (jo s t))], rfl, rfl, rfl, rfl, rfl, ?_, ?_, ?_⟩
  · (repeat' first | exact trivial | exact rfl | refine And.intro ?_ ?_)
  · (repeat' first | exact trivial | exact rfl | refine And.intro ?_ ?_)
  intro _; refine ⟨rfl, ?_⟩
  intro _; refine ⟨fun g0 => ?_, fun g0 => ?_⟩
  · have h0 : (LS bf bh kp s).length = 0 := Nat.eq_of_beq_eq_true g0
    have h0' : LS bf bh kp s = [] := List.length_eq_zero_iff.1 h0
    intro _; refine ⟨rfl, ?_⟩
    intro _; refine ⟨fun g3 => by simp at g3, fun _ => ?_⟩
    refine ⟨⟨rfl, show 0 + 1 ≤ 4611686018427387904 by omega, show (0 + 1) * 16 ≤ 140737488355328 by omega⟩, ?_⟩
    have eW : (([] : LD) ++ [[D.n (IntKind.i64.wrap ((s.length : Int) + 1)), D.b false]]) = LS bf bh kp s ++ [[D.n ((s.length : Int) + 1), D.b false]] := by rw [es1, h0']
    intro _
    refine loop2 tt_ok [16, 15, 75] [7] 8 (fun i : { i : Nat // i ≤ (LS bf bh kp t).length } => [(16, .int .i64 (i.1 : Nat)), (15, .grw 7 ((([] : LD) ++ [[D.n (IntKind.i64.wrap ((s.length : Int) + 1)), D.b false]]) ++ ((LS bf bh kp t).take i.1).map (shr s.length)).length)]) (fun i => [(7, .arr [.int .i64, .bool] .grow (.recs ((([] : LD) ++ [[D.n (IntKind.i64.wrap ((s.length : Int) + 1)), D.b false]]) ++ ((LS bf bh kp t).take i.1).map (shr s.length))))]) (fun i => (LS bf bh kp t).length - i.1) ⟨0, by omega⟩ ?_
    intro _
    refine ⟨⟨th [] 8, rfl, rfl, rfl, rfl, rfl, rfl, ?_, ?_⟩, ?_⟩
    · (repeat' first | exact trivial | exact rfl | refine And.intro ?_ ?_)
      all_goals (rw [List.take_zero, List.map_nil, List.append_nil]; (repeat' first | exact trivial | exact rfl | refine And.intro ?_ ?_))
    · (repeat' first | exact trivial | exact rfl | refine And.intro ?_ ?_)
      all_goals (rw [List.take_zero, List.map_nil, List.append_nil]; (repeat' first | exact trivial | exact rfl | refine And.intro ?_ ?_))
    intro ⟨i, hi⟩
    have hti : ((LS bf bh kp t).take i).length ≤ i := by simp; omega
    have hW : ((([] : LD) ++ [[D.n (IntKind.i64.wrap ((s.length : Int) + 1)), D.b false]])).length ≤ 302 := by rw [eW]; simp; omega
    intro _; refine ⟨fun g => ?_, fun g => ?_⟩
    rotate_left
    · have g := of_decide_eq_false (show decide ((i : Int) < ((LS bf bh kp t).length : Int)) = false from g)
      have hie : i = (LS bf bh kp t).length := by omega
      subst hie
      have eF : LS bf bh kp (jo s t) = (([] : LD) ++ [[D.n (IntKind.i64.wrap ((s.length : Int) + 1)), D.b false]]) ++ ((LS bf bh kp t).take (LS bf bh kp t).length).map (shr s.length) := by
        rw [List.take_length, eW]; exact key
      intro _; refine ⟨fun g => ?_, fun g => ?_⟩
      rotate_left
      · exact absurd (show (LE bf bh kp s == 0) = false from g) (by rw [yS]; decide)
      intro _; refine ⟨fun g => ?_, fun g => ?_⟩
      rotate_left
      · exact absurd (show (LE bf bh kp t == 0) = false from g) (by rw [yT]; decide)
      intro _; refine ⟨fun g => ?_, fun g => ?_⟩
      rotate_left
      · exact absurd (show (LE bf bh kp (jo s t) == 0) = false from g) (by rw [yJ]; decide)
      intro _
      refine call_pure [(0, some 4), (1, some 7)] (same_ok (LS bf bh kp (jo s t)) (LS bf bh kp (jo s t)) (by omega) (by omega)) rfl rfl rfl ?_ ?_ ?_
      · (repeat' first | exact trivial | exact rfl | refine And.intro ?_ ?_)
        all_goals exact eF
      · (repeat' first | exact trivial | exact rfl | refine And.intro ?_ ?_)
        all_goals exact congrArg List.length eF
      intro v hv _
      subst hv
      intro _
      show decide (SameR (LS bf bh kp (jo s t)) (LS bf bh kp (jo s t))) = true
      exact decide_eq_true (SameR_refl _)
    have g := of_decide_eq_true (show decide ((i : Int) < ((LS bf bh kp t).length : Int)) = true from g)
    obtain ⟨a, a1, a2, a3, a4⟩ := lst_row (bf := bf) (bh := bh) (kp := kp) (s := t) t.length i (by rw [← xT]; omega)
    rw [← xT] at a4
    have ea : cI ((LS bf bh kp t).getD (i : Int).toNat []) 0 = (a : Int) := by rw [Int.toNat_natCast, a4]; rfl
    have ew : IntKind.i64.wrap (IntKind.i64.wrap (cI ((LS bf bh kp t).getD (i : Int).toNat []) 0 + (s.length : Int)) + 1) = cI ((LS bf bh kp t).getD i []) 0 + s.length + 1 := by
      rw [ea, wrapS ((a : Int) + (s.length : Int)) ⟨by omega, by omega⟩, wrapS _ ⟨by omega, by omega⟩, a4]; rfl
    have tk : ((LS bf bh kp t).take (i + 1)).map (shr s.length) = ((LS bf bh kp t).take i).map (shr s.length) ++ [[D.n (IntKind.i64.wrap (IntKind.i64.wrap (cI ((LS bf bh kp t).getD (i : Int).toNat []) 0 + (s.length : Int)) + 1)), D.b (cB ((LS bf bh kp t).getD (i : Int).toNat []) 1)]] := by
      rw [List.take_succ_eq_append_getElem (by omega), List.map_append, ew, Int.toNat_natCast]
      rw [show (LS bf bh kp t)[i] = (LS bf bh kp t).getD i [] by rw [List.getD_eq_getElem?_getD, List.getElem?_eq_getElem (by omega)]; rfl]
      rfl
    have hWl : ((([] : LD) ++ [[D.n (IntKind.i64.wrap ((s.length : Int) + 1)), D.b false]]) ++ ((LS bf bh kp t).take i).map (shr s.length)).length ≤ 700 := by
      have := List.length_append («as» := (([] : LD) ++ [[D.n (IntKind.i64.wrap ((s.length : Int) + 1)), D.b false]])) (bs := ((LS bf bh kp t).take i).map (shr s.length))
      rw [List.length_map] at this
      omega
    have tl : ((([] : LD) ++ [[D.n (IntKind.i64.wrap ((s.length : Int) + 1)), D.b false]]) ++ ((LS bf bh kp t).take (i + 1)).map (shr s.length)).length = ((([] : LD) ++ [[D.n (IntKind.i64.wrap ((s.length : Int) + 1)), D.b false]]) ++ ((LS bf bh kp t).take i).map (shr s.length)).length + 1 := by rw [tk, ← List.append_assoc, List.length_append (bs := [_])]; rfl
    intro _; refine ⟨show 0 ≤ (i : Int) ∧ (i : Int) < ((LS bf bh kp t).length : Int) by omega, ?_⟩
    intro _; refine ⟨show (i : Int).toNat < (LS bf bh kp t).length by omega, ?_⟩
    intro _; refine ⟨show 0 ≤ (i : Int) ∧ (i : Int) < ((LS bf bh kp t).length : Int) by omega, ?_⟩
    intro _; refine ⟨show (i : Int).toNat < (LS bf bh kp t).length by omega, ?_⟩
    intro _
    refine Or.inr ?_
    intro _; refine ⟨rfl, ?_⟩
    intro _; refine ⟨fun g3 => by simp at g3, fun _ => ?_⟩
    refine ⟨⟨rfl, show ((([] : LD) ++ [[D.n (IntKind.i64.wrap ((s.length : Int) + 1)), D.b false]]) ++ ((LS bf bh kp t).take i).map (shr s.length)).length + 1 ≤ 4611686018427387904 by omega, show (((([] : LD) ++ [[D.n (IntKind.i64.wrap ((s.length : Int) + 1)), D.b false]]) ++ ((LS bf bh kp t).take i).map (shr s.length)).length + 1) * 16 ≤ 140737488355328 by omega⟩, ?_⟩
    intro _; refine ⟨by kernel_rfl, ?_⟩
    refine ⟨⟨i + 1, by omega⟩, by simp only []; omega, th [(7, some 9)] 8, rfl, rfl, rfl, rfl, rfl, rfl, ?_, ?_⟩
    · (repeat' first | exact trivial | exact rfl | refine And.intro ?_ ?_)
      · exact (wrap_nat i (by omega)).symm
      · rw [tl]; (repeat' first | exact trivial | exact rfl | refine And.intro ?_ ?_)
    · (repeat' first | exact trivial | exact rfl | refine And.intro ?_ ?_)
      rw [tk, ← List.append_assoc]; (repeat' first | exact trivial | exact rfl | refine And.intro ?_ ?_)
  have h0 : (LS bf bh kp s).length ≠ 0 := fun e => by
    rw [e] at g0; cases g0
  refine ⟨⟨rfl, show 0 + (LS bf bh kp s).length ≤ 4611686018427387904 by omega, show (0 + (LS bf bh kp s).length) * 16 ≤ 140737488355328 by omega⟩, ?_⟩
  intro _; refine ⟨rfl, ?_⟩
  intro _; refine ⟨fun g3 => by simp at g3, fun _ => ?_⟩
  refine ⟨⟨by simp; rfl, show (0 + (LS bf bh kp s).length) + 1 ≤ 4611686018427387904 by omega, show ((0 + (LS bf bh kp s).length) + 1) * 16 ≤ 140737488355328 by omega⟩, ?_⟩
  have eW : (([] : LD) ++ LS bf bh kp s ++ [[D.n (IntKind.i64.wrap ((s.length : Int) + 1)), D.b false]]) = LS bf bh kp s ++ [[D.n ((s.length : Int) + 1), D.b false]] := by rw [es1]; simp
  intro _
  refine loop2 tt_ok [16, 15, 75] [8] 9 (fun i : { i : Nat // i ≤ (LS bf bh kp t).length } => [(16, .int .i64 (i.1 : Nat)), (15, .grw 8 ((([] : LD) ++ LS bf bh kp s ++ [[D.n (IntKind.i64.wrap ((s.length : Int) + 1)), D.b false]]) ++ ((LS bf bh kp t).take i.1).map (shr s.length)).length)]) (fun i => [(8, .arr [.int .i64, .bool] .grow (.recs ((([] : LD) ++ LS bf bh kp s ++ [[D.n (IntKind.i64.wrap ((s.length : Int) + 1)), D.b false]]) ++ ((LS bf bh kp t).take i.1).map (shr s.length))))]) (fun i => (LS bf bh kp t).length - i.1) ⟨0, by omega⟩ ?_
  intro _
  refine ⟨⟨th [] 9, rfl, rfl, rfl, rfl, rfl, rfl, ?_, ?_⟩, ?_⟩
  · (repeat' first | exact trivial | exact rfl | refine And.intro ?_ ?_)
    all_goals (rw [List.take_zero, List.map_nil, List.append_nil]; simp; (repeat' first | exact trivial | exact rfl | refine And.intro ?_ ?_))
  · (repeat' first | exact trivial | exact rfl | refine And.intro ?_ ?_)
    all_goals (rw [List.take_zero, List.map_nil, List.append_nil]; (repeat' first | exact trivial | exact rfl | refine And.intro ?_ ?_))
  intro ⟨i, hi⟩
  have hti : ((LS bf bh kp t).take i).length ≤ i := by simp; omega
  have hW : ((([] : LD) ++ LS bf bh kp s ++ [[D.n (IntKind.i64.wrap ((s.length : Int) + 1)), D.b false]])).length ≤ 302 := by rw [eW]; simp; omega
  intro _; refine ⟨fun g => ?_, fun g => ?_⟩
  rotate_left
  · have g := of_decide_eq_false (show decide ((i : Int) < ((LS bf bh kp t).length : Int)) = false from g)
    have hie : i = (LS bf bh kp t).length := by omega
    subst hie
    have eF : LS bf bh kp (jo s t) = (([] : LD) ++ LS bf bh kp s ++ [[D.n (IntKind.i64.wrap ((s.length : Int) + 1)), D.b false]]) ++ ((LS bf bh kp t).take (LS bf bh kp t).length).map (shr s.length) := by
      rw [List.take_length, eW]; exact key
    intro _; refine ⟨fun g => ?_, fun g => ?_⟩
    rotate_left
    · exact absurd (show (LE bf bh kp s == 0) = false from g) (by rw [yS]; decide)
    intro _; refine ⟨fun g => ?_, fun g => ?_⟩
    rotate_left
    · exact absurd (show (LE bf bh kp t == 0) = false from g) (by rw [yT]; decide)
    intro _; refine ⟨fun g => ?_, fun g => ?_⟩
    rotate_left
    · exact absurd (show (LE bf bh kp (jo s t) == 0) = false from g) (by rw [yJ]; decide)
    intro _
    refine call_pure [(0, some 4), (1, some 8)] (same_ok (LS bf bh kp (jo s t)) (LS bf bh kp (jo s t)) (by omega) (by omega)) rfl rfl rfl ?_ ?_ ?_
    · (repeat' first | exact trivial | exact rfl | refine And.intro ?_ ?_)
      all_goals exact eF
    · (repeat' first | exact trivial | exact rfl | refine And.intro ?_ ?_)
      all_goals exact congrArg List.length eF
    intro v hv _
    subst hv
    intro _
    show decide (SameR (LS bf bh kp (jo s t)) (LS bf bh kp (jo s t))) = true
    exact decide_eq_true (SameR_refl _)
  have g := of_decide_eq_true (show decide ((i : Int) < ((LS bf bh kp t).length : Int)) = true from g)
  obtain ⟨a, a1, a2, a3, a4⟩ := lst_row (bf := bf) (bh := bh) (kp := kp) (s := t) t.length i (by rw [← xT]; omega)
  rw [← xT] at a4
  have ea : cI ((LS bf bh kp t).getD (i : Int).toNat []) 0 = (a : Int) := by rw [Int.toNat_natCast, a4]; rfl
  have ew : IntKind.i64.wrap (IntKind.i64.wrap (cI ((LS bf bh kp t).getD (i : Int).toNat []) 0 + (s.length : Int)) + 1) = cI ((LS bf bh kp t).getD i []) 0 + s.length + 1 := by
    rw [ea, wrapS ((a : Int) + (s.length : Int)) ⟨by omega, by omega⟩, wrapS _ ⟨by omega, by omega⟩, a4]; rfl
  have tk : ((LS bf bh kp t).take (i + 1)).map (shr s.length) = ((LS bf bh kp t).take i).map (shr s.length) ++ [[D.n (IntKind.i64.wrap (IntKind.i64.wrap (cI ((LS bf bh kp t).getD (i : Int).toNat []) 0 + (s.length : Int)) + 1)), D.b (cB ((LS bf bh kp t).getD (i : Int).toNat []) 1)]] := by
    rw [List.take_succ_eq_append_getElem (by omega), List.map_append, ew, Int.toNat_natCast]
    rw [show (LS bf bh kp t)[i] = (LS bf bh kp t).getD i [] by rw [List.getD_eq_getElem?_getD, List.getElem?_eq_getElem (by omega)]; rfl]
    rfl
  have hWl : ((([] : LD) ++ LS bf bh kp s ++ [[D.n (IntKind.i64.wrap ((s.length : Int) + 1)), D.b false]]) ++ ((LS bf bh kp t).take i).map (shr s.length)).length ≤ 700 := by
    have := List.length_append («as» := (([] : LD) ++ LS bf bh kp s ++ [[D.n (IntKind.i64.wrap ((s.length : Int) + 1)), D.b false]])) (bs := ((LS bf bh kp t).take i).map (shr s.length))
    rw [List.length_map] at this
    omega
  have tl : ((([] : LD) ++ LS bf bh kp s ++ [[D.n (IntKind.i64.wrap ((s.length : Int) + 1)), D.b false]]) ++ ((LS bf bh kp t).take (i + 1)).map (shr s.length)).length = ((([] : LD) ++ LS bf bh kp s ++ [[D.n (IntKind.i64.wrap ((s.length : Int) + 1)), D.b false]]) ++ ((LS bf bh kp t).take i).map (shr s.length)).length + 1 := by rw [tk, ← List.append_assoc, List.length_append (bs := [_])]; rfl
  intro _; refine ⟨show 0 ≤ (i : Int) ∧ (i : Int) < ((LS bf bh kp t).length : Int) by omega, ?_⟩
  intro _; refine ⟨show (i : Int).toNat < (LS bf bh kp t).length by omega, ?_⟩
  intro _; refine ⟨show 0 ≤ (i : Int) ∧ (i : Int) < ((LS bf bh kp t).length : Int) by omega, ?_⟩
  intro _; refine ⟨show (i : Int).toNat < (LS bf bh kp t).length by omega, ?_⟩
  intro _
  refine Or.inr ?_
  intro _; refine ⟨rfl, ?_⟩
  intro _; refine ⟨fun g3 => by simp at g3, fun _ => ?_⟩
  refine ⟨⟨rfl, show ((([] : LD) ++ LS bf bh kp s ++ [[D.n (IntKind.i64.wrap ((s.length : Int) + 1)), D.b false]]) ++ ((LS bf bh kp t).take i).map (shr s.length)).length + 1 ≤ 4611686018427387904 by omega, show (((([] : LD) ++ LS bf bh kp s ++ [[D.n (IntKind.i64.wrap ((s.length : Int) + 1)), D.b false]]) ++ ((LS bf bh kp t).take i).map (shr s.length)).length + 1) * 16 ≤ 140737488355328 by omega⟩, ?_⟩
  intro _; refine ⟨by kernel_rfl, ?_⟩
  refine ⟨⟨i + 1, by omega⟩, by simp only []; omega, th [(8, some 10)] 9, rfl, rfl, rfl, rfl, rfl, rfl, ?_, ?_⟩
  · (repeat' first | exact trivial | exact rfl | refine And.intro ?_ ?_)
    · exact (wrap_nat i (by omega)).symm
    · rw [tl]; (repeat' first | exact trivial | exact rfl | refine And.intro ?_ ?_)
  · (repeat' first | exact trivial | exact rfl | refine And.intro ?_ ?_)
    rw [tk, ← List.append_assoc]; (repeat' first | exact trivial | exact rfl | refine And.intro ?_ ?_)

theorem slice_len {H : Type} {enc : TypeId × Value → H} {P : Program} {w : World} {spare : Nat → Bool} {held : Bool} {t e : TypeId} {d : DataW H} {p : List MemPlace} (ht : P.underlying t = some (.slice e)) {s : Src} {cap : Nat} (h : DataW.Trod enc P w 0 spare held t (s.val cap) d p) (hn : s.at_ = none → s.ac.len = 0) : s.ac.len = 0 ∨ ∃ elems sp, d = .slice elems sp ∧ elems.length = s.ac.len := by
  obtain ⟨fuel, h⟩ := h
  cases hat : s.at_ with
  | none => exact .inl (hn hat)
  | some q =>
    obtain ⟨B, o⟩ := q
    right
    have hv : s.val cap = Value.slice (some ⟨B, o, none⟩) s.ac.len cap := by simp only [Src.val, hat]
    rw [hv] at h
    rcases Go.Deep.open_slice ht h with ⟨h1, _⟩ | ⟨a, len, cap', m, n, D, Pl, h1, _, _, _, _, hx, _⟩
    · have h1 : [Value.slice (some ⟨B, o, none⟩) s.ac.len cap] = [.slice none 0 0] := h1
      simp at h1
    · have h1 : [Value.slice (some ⟨B, o, none⟩) s.ac.len cap] = [.slice (some a) len cap'] := h1
      simp only [List.cons.injEq, Value.slice.injEq, and_true] at h1
      obtain ⟨_, h2, _⟩ := h1
      simp only [Prod.mk.injEq] at hx
      exact ⟨_, _, hx.1, by simp [h2]⟩
theorem open_strs {H : Type} {enc : TypeId × Value → H} {P : Program} {w : World} {base : Nat} {held : Bool} {r : Reach} {t e : TypeId} {v : Value} {d : DataW H} {p : List MemPlace} (ht : P.underlying t = some (.slice e)) (he : P.underlying e = some .string) (hC : P.cellsOf e = 1)
    (hval : Value.okWide P w r base t v) (h : DataW.Trod enc P w 0 (fun _ => true) held t v d p) :
    ∃ (s : Src) (l : List (List Go.Vm2.D)) (cap : Nat), s.ks = [.str] ∧ s.ac = .recs l ∧ s.lies w ∧ (s.at_ = none → l.length = 0) ∧ l.length ≤ cap ∧ v = s.val cap ∧ l.length ≤ maxLen ∧ ∀ x ∈ l, Go.Vm2.rowWf [.str] x := by
  have hne : ([.str] : List CK) ≠ [] := by simp
  letI : Facts := ⟨[], [], false⟩
  obtain ⟨ao, len, cap, rfl⟩ := okWide_slice ht hval
  obtain ⟨fuel, h⟩ := h
  rcases Go.Deep.open_slice ht h with ⟨h1, _⟩ | ⟨a, len', cap', m, n, D', Pl, h1, _, h3, h4, hm, _, hi⟩
  · have h1 : [Value.slice ao len cap] = [.slice none 0 0] := h1
    simp only [List.cons.injEq, Value.slice.injEq, and_true] at h1
    obtain ⟨rfl, rfl, rfl⟩ := h1
    exact ⟨⟨none, ([.str] : List CK), .recs []⟩, [], 0, rfl, rfl, ⟨hne, rfl⟩, fun _ => rfl, Nat.le_refl _, rfl, Nat.zero_le _, fun n hn => (List.not_mem_nil hn).elim⟩
  · have h1 : [Value.slice ao len cap] = [.slice (some a) len' cap'] := h1
    simp only [List.cons.injEq, Value.slice.injEq, and_true] at h1
    obtain ⟨rfl, rfl, rfl⟩ := h1
    have hh : w.has P r base a e cap := by
      simp only [Value.okWide, ht, Cell.okWide, Cell.ok] at hval
      exact hval.2.2
    have hlm : len ≤ m := by rw [hm]; split <;> omega
    have rows : ∀ i, i < len → ∃ ds : List Go.Vm2.D, Go.Vm2.rowWf [.str] ds ∧ ∀ j c, ([.str] : List CK)[j]? = some c → w.cell? (a.add (i * ([.str] : List CK).length + j)) = some (Go.Vm2.valOf c (ds.getD j (.n 0))) := by
      intro i hil
      obtain ⟨cs', hc, ht'⟩ := hi i (by omega)
      rw [hC] at hc
      obtain ⟨_, hcl, hat⟩ := World.cells?_some hc
      obtain ⟨m', h1, _, h3⟩ := DataW.trod_string he ht'
      refine ⟨[.s m'.data.toList], ⟨rfl, fun j c hj => ?_⟩, fun j c hj => ?_⟩
      · match j, hj with
        | 0, hj =>
          simp at hj; subst hj
          exact ⟨_, rfl, by simpa using h3⟩
        | j + 1, hj => simp at hj
      · match j, hj with
        | 0, hj =>
          simp at hj; subst hj
          have := hat 0 (by omega)
          rw [h1] at this
          rw [← Go.Deep.add_add]
          exact this
        | j + 1, hj => simp at hj
    obtain ⟨l, l1, l2⟩ := Go.Vm2.pick_list len rows
    obtain ⟨b, off, spot⟩ := a
    obtain ⟨rfl, c, tt, fz, hb, hoff⟩ := Go.Vm2.has_lies hh
    have hb : w.heap[b]? = some (.cells c tt fz) := hb
    have hz : 0 < ([.str] : List CK).length := List.length_pos_iff.2 hne
    have cellAt : ∀ i j ck, i < len → ([.str] : List CK)[j]? = some ck → c[off + (i * ([.str] : List CK).length + j)]? = some (Go.Vm2.valOf ck (((l.getD i []).getD j (.n 0)))) := by
      intro i j ck hil hck
      have e : l[i]? = some (l.getD i []) := by rw [List.getD_eq_getElem?_getD, List.getElem?_eq_getElem (by omega)]; rfl
      have := (l2 i _ e).2 j ck hck
      rw [add_plain] at this
      unfold World.cell? at this
      rw [hb] at this
      simpa using this
    refine ⟨⟨some (b, off), ([.str] : List CK), .recs l⟩, l, cap, rfl, rfl, ⟨hne, c, tt, fz, hb, ?_, ?_⟩, (fun e => by cases e), by omega, ?_, by omega, fun x hx => ?_⟩
    · show off + l.length * ([.str] : List CK).length ≤ c.size
      rcases Nat.eq_zero_or_pos len with h0 | h0
      · rw [l1, h0, Nat.zero_mul]; exact hoff
      · have hk : ([.str] : List CK)[([.str] : List CK).length - 1]? = some ([.str] : List CK)[([.str] : List CK).length - 1] := List.getElem?_eq_getElem (by omega)
        have := (Array.getElem?_eq_some_iff.1 (cellAt (len - 1) (([.str] : List CK).length - 1) _ (by omega) hk)).1
        rw [l1]
        have e : len * ([.str] : List CK).length = (len - 1) * ([.str] : List CK).length + ([.str] : List CK).length := by
          have : len = (len - 1) + 1 := by omega
          rw [this, Nat.add_mul, Nat.one_mul]; simp
        omega
    · intro i ck dd hii
      simp only [AC.avs] at hii
      have hfl' := Go.Vm2.flat_length (fun x => Go.Vm2.rowAV_length ([.str] : List CK) 0 x) l
      have hil : i < l.length * ([.str] : List CK).length := by rw [← hfl']; exact (List.getElem?_eq_some_iff.1 hii).1
      have q1 := Nat.div_add_mod i ([.str] : List CK).length
      have q2 := Nat.mod_lt i hz
      have q3 : i / ([.str] : List CK).length < l.length := (Nat.div_lt_iff_lt_mul hz).2 hil
      have hi' : i = i / ([.str] : List CK).length * ([.str] : List CK).length + i % ([.str] : List CK).length := by rw [Nat.mul_comm]; omega
      have e : l[i / ([.str] : List CK).length]? = some (l.getD (i / ([.str] : List CK).length) []) := by rw [List.getD_eq_getElem?_getD, List.getElem?_eq_getElem q3]; rfl
      have hk : ([.str] : List CK)[i % ([.str] : List CK).length]? = some ([.str] : List CK)[i % ([.str] : List CK).length] := List.getElem?_eq_getElem q2
      have f1 := Go.Vm2.flat_get (fun x => Go.Vm2.rowAV_length ([.str] : List CK) 0 x) (i / ([.str] : List CK).length) l _ e (i % ([.str] : List CK).length) q2
      rw [← hi', hii, Go.Vm2.rowAV_get ([.str] : List CK) 0 _ _ _ hk, Nat.zero_add] at f1
      have f2 := cellAt (i / ([.str] : List CK).length) (i % ([.str] : List CK).length) _ (by omega) hk
      rw [← hi'] at f2
      show c[off + i]? = some (Go.Vm2.valOf ck dd)
      rw [f2]
      simp only [Option.some.injEq] at f1
      congr 1
      revert f1
      generalize ([.str] : List CK)[i % ([.str] : List CK).length] = c2
      generalize (l.getD (i / ([.str] : List CK).length) []).getD (i % ([.str] : List CK).length) (.n 0) = d2
      intro f1
      cases ck <;> cases c2 <;> simp only [CK.av, Go.Vm.AV.int.injEq, Go.Vm.AV.bool.injEq, Go.Vm.AV.str.injEq, reduceCtorEq] at f1 <;> simp only [Go.Vm2.valOf]
      · rw [f1.1, f1.2]
      · rw [f1]
      · rw [f1]
    · show Value.slice (some ⟨b, off, none⟩) len cap = Value.slice (some ⟨b, off, none⟩) l.length cap
      rw [l1]
    · obtain ⟨i, hi', rfl⟩ := List.getElem_of_mem hx
      exact (l2 i _ (List.getElem?_eq_getElem hi')).1
theorem agg_cv {n : Nat} {ν : Nu} {vs : List V} {as' : List Go.Vm.AV} (h : Cvs n ν vs as') : Cv n ν (.agg vs) (.agg as') := by
  simp only [Cv]; exact ⟨as', rfl, h⟩
def fieldsSt (P : Program) : Nat → List Field → List TypeId → Bool
  | _, [], [] => true
  | j, f :: fs, u :: us => Nat.beq f.offset j && Nat.beq (P.cellsOf f.type) 1 && Nat.beq f.type u && fieldsSt P (j + 1) fs us
  | _, _, _ => false
theorem fieldsSt_get {P : Program} : ∀ {fs : List Field} {ts : List TypeId} {j0 : Nat}, fieldsSt P j0 fs ts = true → ∀ (j : Nat) (u : TypeId), ts[j]? = some u → ∃ f, fs[j]? = some f ∧ f.offset = j0 + j ∧ P.cellsOf f.type = 1 ∧ f.type = u
  | [], [], _, _ => fun j u e => by simp at e
  | [], _ :: _, _, h => by simp [fieldsSt] at h
  | _ :: _, [], _, h => by simp [fieldsSt] at h
  | f :: fs, u :: us, j0, h => by
    simp only [fieldsSt, Bool.and_eq_true] at h
    obtain ⟨⟨⟨h1, h2⟩, h3⟩, h4⟩ := h
    intro j u' e
    cases j with
    | zero =>
      simp at e; subst e
      exact ⟨f, rfl, Nat.eq_of_beq_eq_true h1, Nat.eq_of_beq_eq_true h2, Nat.eq_of_beq_eq_true h3⟩
    | succ j =>
      simp at e
      obtain ⟨f', e1, e2, e3⟩ := fieldsSt_get h4 j u' e
      exact ⟨f', by simpa using e1, by rw [e2]; omega, e3⟩
theorem open_st {H : Type} {enc : TypeId × Value → H} {P : Program} {w : World} {base : Nat} {spare : Nat → Bool} {held : Bool} {r : Reach} {t : TypeId} {fs : Array Field} {ts : List TypeId} {v : Value} {d : DataW H} {p : List MemPlace} (ht : P.underlying t = some (.struct fs)) (hts : P.cellTypes P.depth t = some ts) (hC : P.cellsOf t = ts.length) (hf : fieldsSt P 0 fs.toList ts = true)
    (hval : Value.okWide P w r base t v) (h : DataW.Trod enc P w 0 spare held t v d p) :
    ∃ cs : Array Value, v = .agg cs ∧ cs.size = ts.length ∧ ∀ (j : Nat) (u : TypeId), ts[j]? = some u → ∃ x d' p' fuel, cs[j]? = some x ∧ Cell.okWide P w r base u x ∧ DataW.trod enc P w 0 spare held fuel u [x] = some (d', p') := by
  unfold Value.okWide at hval
  rw [ht] at hval
  obtain ⟨cs, rfl, hs, ts', ht', _, hk⟩ := hval
  rw [hts] at ht'
  simp only [Option.some.injEq] at ht'
  subst ht'
  obtain ⟨fuel, h⟩ := h
  obtain ⟨xs, n, _, _, hl, hxl, hf'⟩ := DataW.trod_struct ht h
  refine ⟨cs, rfl, by rw [hs, hC], fun j u hu => ?_⟩
  obtain ⟨f, e1, e2, e3, rfl⟩ := fieldsSt_get hf j u hu
  have hj : j < ts.length := (List.getElem?_eq_some_iff.1 hu).1
  have hjc : j < cs.size := by rw [hs, hC]; exact hj
  obtain ⟨u', hu', hok⟩ := hk j cs[j] (by simp [hjc])
  rw [Nat.mod_eq_of_lt hj, hu] at hu'
  cases hu'
  have e4 := hf' j f (by simpa using e1)
  rw [e2, e3, Nat.zero_add] at e4
  have e5 : ((Value.agg cs).cells.toList.drop j).take 1 = [cs[j]] := by
    show (cs.toList.drop j).take 1 = _
    rw [List.drop_eq_getElem_cons (by simpa using hjc)]; simp
  rw [e5] at e4
  have hjf : j < fs.toList.length := (List.getElem?_eq_some_iff.1 e1).1
  have hjx : j < xs.length := by rw [hxl]; simpa using hjf
  rw [List.getElem?_eq_getElem hjx] at e4
  exact ⟨cs[j], xs[j].1, xs[j].2, n, by simp [hjc], hok, e4⟩
theorem walk (w : World) (bf : Int) (w_bf : (Lit.int .i64 bf).wf = true) (bh : Int) (w_bh : (Lit.int .i64 bh).wf = true) (v_kp : Value) (s_kp : Src) (kp : List (List Go.Vm2.D)) (cap_kp : Nat) (hk_kp : s_kp.ks = [.str]) (ha_kp : s_kp.ac = .recs kp) (hs_kp : s_kp.lies w) (hn_kp : s_kp.at_ = none → kp.length = 0) (hc_kp : kp.length ≤ cap_kp) (hv_kp : v_kp = s_kp.val cap_kp) (hm_kp : kp.length ≤ maxLen) (w_kp : ∀ n ∈ kp, rowWf [.str] n) (s : List UInt8) (m_s : s.length ≤ maxLen) (z_s : s.length ≤ 140737488351232) (t : List UInt8) (m_t : t.length ≤ maxLen) (z_t : t.length ≤ 140737488351232) :
    Calls Try.prog 8 #[.agg #[.int .i64 bf, .int .i64 bh, v_kp], .string ⟨s.toArray⟩, .string ⟨t.toArray⟩] w fun e w' => e = .returned (.bool true) ∧ Below w.heap.size w w' := by
  obtain ⟨at_kp, ks_kp, ac_kp⟩ := s_kp
  simp only [] at hk_kp ha_kp
  subst hk_kp ha_kp
  have h_kp : kp.length ≤ 9223372036854775807 := by unfold maxLen at hm_kp; omega
  have b_bf := w_bf
  simp [Lit.wf, IntKind.min, IntKind.max, IntKind.signed, IntKind.bits] at b_bf
  have b_bh := w_bh
  simp [Lit.wf, IntKind.min, IntKind.max, IntKind.signed, IntKind.bits] at b_bh
  have h_s : s.length ≤ 9223372036854775807 := by unfold maxLen at m_s; omega
  have h_t : t.length ≤ 9223372036854775807 := by unfold maxLen at m_t; omega
  exact top_run (by kernel_rfl) (by kernel_rfl) (T := [9]) (fun f hf w => by
      rcases List.mem_cons.1 hf with e | e
      · subst e; exact head w
      · exact (List.not_mem_nil e).elim) (l := [⟨at_kp, [.str], .recs kp⟩]) (args := [.agg [.int .i64 bf, .int .i64 bh, .slc 0 1 0 kp.length], .str s, .str t]) («as» := [.agg [.int .i64 bf, .int .i64 bh, Src.av 0 cap_kp ⟨at_kp, [.str], .recs kp⟩], .str s, .str t]) (cargs := [.agg #[.int .i64 bf, .int .i64 bh, v_kp], .string ⟨s.toArray⟩, .string ⟨t.toArray⟩]) w
    (fun s h => by
      rcases List.mem_cons.1 h with e | h
      · subst e; exact hs_kp
      · exact (List.not_mem_nil h).elim)
    (Cvs.cons (agg_cv (Cvs.cons mk_int (Cvs.cons mk_int (Cvs.cons (src_cv (s := ⟨at_kp, [.str], .recs kp⟩) rfl 1 hc_kp hn_kp) Cvs.nil)))) (Cvs.cons mk_str (Cvs.cons mk_str Cvs.nil)))
    (by simp only [Go.Vm.convs, Go.Vm.conv]; rw [src_conv (j := 0) (s := ⟨at_kp, [.str], .recs kp⟩) rfl]; subst hv_kp; rfl)
    ((law8 bf bh kp s t (by omega) (by omega)))

set_option maxRecDepth 100000 in
theorem lifted (os : Os) (started : os.Started) (H : Type) (enc : TypeId × Value → H) :
    ReturnsInHanded {} Try.checked os 8 .any (Rows.breaksJoinsSpec.pre6 enc Try.prog Try.f8 Rows.breaksJoinsRow.domain false) (Rows.breaksJoinsSpec.post enc Try.prog Try.f8 false true false false) := by
  refine returnsInHanded_of_change_sized (C := Try.checked) own started (by kernel_rfl) Try.func8
    (ChangeSpec.witness6 (enc := enc) (C := Try.checked) false ⟨#[], #[.agg #[.int .i64 0, .int .i64 0, .slice none 0 0], .string ⟨#[]⟩, .string ⟨#[]⟩], []⟩ 8 (by kernel_rfl) (by kernel_rfl) (by kernel_rfl) (by kernel_rfl)) ?_
  intro W base args ds gs before hval0 hW hcnd hsz0 _
  have hval : ∀ (j : Nat) t v, Try.f8.params[j]? = some t → args[j]? = some v → Value.okWide Try.prog W .any base t v := hval0
  have hW' := hW
  obtain ⟨p, q, hA0, hV, rfl, hfz, hnd⟩ := hW
  have hA : DataW.TrodAll enc Try.prog W 0 (fun _ => true) true Try.f8.params.toList args.toList ds p := hA0
  rw [Try.params8] at hA hval
  obtain ⟨v0, vs0, d0, ds0, p0, q0, hargs, rfl, rfl, h0, r0⟩ := trodAll_cons hA
  obtain ⟨v1, vs1, d1, ds1, p1, q1, rfl, rfl, rfl, h1, r1⟩ := trodAll_cons r0
  obtain ⟨v2, vs2, d2, ds2, p2, q2, rfl, rfl, rfl, h2, r2⟩ := trodAll_cons r1
  obtain ⟨rfl, rfl, rfl⟩ := trodAll_nil r2
  obtain rfl : args = #[v0, v1, v2] := by cases args; simp_all
  obtain ⟨rfl, rfl⟩ := trodVars_none hV
  obtain ⟨cs_b, rfl, hz_b, hs_b⟩ := open_st (ts := [3, 3, 22]) Try.underlying24 (by kernel_rfl) (by kernel_rfl) (by kernel_rfl) (hval 0 24 v0 rfl rfl) h0
  have hlt0 : ∀ x ∈ p0, x.block < W.heap.size := fun x hx => by simpa using hW'.lt x (by simp [hx])
  obtain ⟨x_bf, d_bf, p_bf, fu_bf, hx_bf, hk0_bf, ht_bf⟩ := hs_b 0 3 rfl
  have hkk_bf : Value.okWide Try.prog W .any base 3 x_bf := by unfold Value.okWide; rw [Try.underlying3]; exact hk0_bf
  obtain ⟨x_bh, d_bh, p_bh, fu_bh, hx_bh, hk0_bh, ht_bh⟩ := hs_b 1 3 rfl
  have hkk_bh : Value.okWide Try.prog W .any base 3 x_bh := by unfold Value.okWide; rw [Try.underlying3]; exact hk0_bh
  obtain ⟨x_kp, d_kp, p_kp, fu_kp, hx_kp, hk0_kp, ht_kp⟩ := hs_b 2 22 rfl
  have hkk_kp : Value.okWide Try.prog W .any base 22 x_kp := by unfold Value.okWide; rw [Try.underlying22]; exact hk0_kp
  have hcs_b : cs_b = #[x_bf, x_bh, x_kp] := by
    refine Array.ext (by rw [hz_b]; rfl) fun i h1 h2 => ?_
    have hi : i < 3 := by simpa using h2
    rcases i with _ | _ | _ | i
    · have := hx_bf; rw [Array.getElem?_eq_getElem h1] at this; exact Option.some.inj this
    · have := hx_bh; rw [Array.getElem?_eq_getElem h1] at this; exact Option.some.inj this
    · have := hx_kp; rw [Array.getElem?_eq_getElem h1] at this; exact Option.some.inj this
    · omega
  subst hcs_b
  obtain ⟨bf, hq_bf, _, w_bf⟩ := DataW.trod_int Try.underlying3 ht_bf
  simp only [List.cons.injEq, and_true] at hq_bf
  subst hq_bf
  obtain ⟨bh, hq_bh, _, w_bh⟩ := DataW.trod_int Try.underlying3 ht_bh
  simp only [List.cons.injEq, and_true] at hq_bh
  subst hq_bh
  have htt_kp : DataW.Trod enc Try.prog W 0 (fun _ => true) true 22 x_kp d_kp p_kp := by obtain ⟨ao, len, cap, rfl⟩ := okWide_slice Try.underlying22 hkk_kp; exact ⟨fu_kp, ht_kp⟩
  obtain ⟨s_kp, kp, cap_kp, hk_kp, ha_kp, hs_kp, hn_kp, hc_kp, hv_kp, hm_kp, w_kp⟩ := open_strs Try.underlying22 Try.underlying9 (by kernel_rfl) hkk_kp htt_kp
  obtain ⟨sb_s, rfl, rfl, rfl, m0_s⟩ := Go.ChangeMaps.open_string Try.underlying9 (hval 1 9 v1 rfl rfl) h1
  obtain ⟨s, rfl⟩ : ∃ a : List UInt8, sb_s = ⟨a.toArray⟩ := ⟨sb_s.data.toList, by cases sb_s; simp⟩
  obtain ⟨sb_t, rfl, rfl, rfl, m0_t⟩ := Go.ChangeMaps.open_string Try.underlying9 (hval 2 9 v2 rfl rfl) h2
  obtain ⟨t, rfl⟩ : ∃ a : List UInt8, sb_t = ⟨a.toArray⟩ := ⟨sb_t.data.toList, by cases sb_t; simp⟩
  have hsz := hsz0
  rw [Try.params8] at hsz
  have z_s : s.length ≤ 140737488351232 := by
    have hs := sized_string hsz (j := 1) (t := 9) rfl rfl
    simpa [reachBytes] using hs
  have z_t : t.length ≤ 140737488351232 := by
    have hs := sized_string hsz (j := 2) (t := 9) rfl rfl
    simpa [reachBytes] using hs
  clear hA0 hval0
  refine (walk W bf w_bf bh w_bh x_kp s_kp kp cap_kp hk_kp ha_kp hs_kp hn_kp hc_kp hv_kp hm_kp w_kp s (by simpa [ByteArray.size] using m0_s) z_s t (by simpa [ByteArray.size] using m0_t) z_t).mono fun e W' ⟨he, hg⟩ => ?_
  subst he
  exact ⟨_, rfl, _, _, _, [], _, [], hW', trodAll_cons_mk (shut_bool Try.underlying4 _) trodAll_mk0, (trodAll_cons_mk (Below.trod laidOut (by kernel_rfl) (of_decide_eq_true (by kernel_rfl)) h0 hg hlt0) (trodAll_cons_mk (Go.ChangeMaps.shut_string Try.underlying9 m0_s) (trodAll_cons_mk (Go.ChangeMaps.shut_string Try.underlying9 m0_t) trodAll_mk0))), rfl, hg.frame _, fun h => by cases h⟩

theorem over : Rows.breaksJoinsRow.holds Try.pinned (OpenSpec.ofChange Rows.breaksJoinsSpec) :=
  OpenClaim.holds_of_wide 8 Try.f8 rfl rfl rfl rfl rfl rfl rfl ⟨rfl, rfl, rfl, rfl, rfl⟩ rfl rfl rfl rfl rfl (by kernel_rfl) Try.func8 (by kernel_rfl)
    (of_decide_eq_true (by kernel_rfl)) (by unfold Func.isWrapper; first | (rw [if_pos (by decide +kernel)]; kernel_rfl) | (rw [if_neg (by decide +kernel)]; exact ⟨rfl, rfl⟩))
    (fun os started H enc _ => lifted os started H enc)

/-- the statement -/
theorem proved : Rows.BreaksJoinsSaid :=
  over
#print axioms proved
end Go.Proofs.Ytbjidlekfoabaaa.breaksJoins
