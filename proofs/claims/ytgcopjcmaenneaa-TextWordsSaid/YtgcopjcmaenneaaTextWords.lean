/-
  TextWords: whatever the arguments, the law returns true, and its arguments read as before. No conditions.
-/
import Derived.Test.YtgcopjcmaenneaaRows
import Derived.Test.YtgcopjcmaenneaaVwOpen2
import Derived.Test.YtgcopjcmaenneaaVwRules6
import Derived.Test.YtgcopjcmaenneaaVmSym
import Derived.WalkKit
import Derived.ProofKit
import Derived.OpenShut
import Derived.Carry
import Derived.ChangeMaps5
import Derived.Laws.RangeAny
import Derived.Lib.Bytealg
namespace Go.Proofs.Ytgcopjcmaenneaa.textWords
open Go.ChangeShapes Go.WideShapes Go.ChangeAt Go.RowKit
open Go.Vm (Facts Val Sound)
open Go.Vm2
set_option linter.unusedVariables false
set_option linter.unusedSectionVars false

theorem own : ownKnob Try.prog.godebug = none := by kernel_rfl
theorem laidOut : laidOutB Try.prog = true := by kernel_rfl
def ts : List Nat := [9, 4, 3, 23, 33, 5, 21]
def tt : Go.Vm2.TT := [
  (9, ⟨.string, false, 1, .str [], true⟩),
  (4, ⟨.bool, false, 1, .bool false, true⟩),
  (3, ⟨(.int .i64), false, 1, .int .i64 (0), true⟩),
  (23, ⟨(.int .i64), false, 1, .int .i64 (0), true⟩),
  (33, ⟨(.slice 5 1 1 [.int .u8]), false, 1, .nils, true⟩),
  (5, ⟨(.int .u8), false, 1, .int .u8 (0), true⟩),
  (21, ⟨(.int .i32), false, 1, .int .i32 (0), true⟩)]
theorem tt_mk : mkTT Try.prog ts = some tt := by kernel_rfl
theorem head (w : World) : Calls Try.prog 9 #[] w fun e w' => e = .returned (.bool true) ∧ Below w.heap.size w w' :=
  Go.Vm.head_run (by kernel_rfl) (by kernel_rfl) (n := 1000000) (by kernel_rfl) w
instance facts : Facts := ⟨[], [9], false⟩
instance val : Val := ⟨fun _ => 0⟩
instance sound : Sound := ⟨fun f hf => (List.not_mem_nil hf).elim⟩
theorem tt_ok : TTok Try.prog tt := ttok_mk tt_mk
def body (f : Func) : Code := match f.body with | some c => c | none => .skip
set_option maxRecDepth 100000
theorem wrap_nat (k : Nat) (h : k < 9223372036854775807) : IntKind.i64.wrap ((k : Int) + 1) = ((k + 1 : Nat) : Int) := by
  rw [IntKind.wrap_i64]; omega
theorem wrapS (n : Int) (h : -9000000000000000000 ≤ n ∧ n ≤ 9000000000000000000) : IntKind.i64.wrap n = n := by rw [IntKind.wrap_i64]; omega
/-! classes of bytes -/
def cl (n : Int) : Int := if 97 ≤ n ∧ n ≤ 122 then 1 else if 65 ≤ n ∧ n ≤ 90 then 2 else if 48 ≤ n ∧ n ≤ 57 then 3 else if n = 32 then 4 else if n = 126 then 6 else if 32 < n ∧ n < 126 then 5 else 0
theorem cl_high {n : Int} (h : 128 ≤ n) : cl n = 0 := by unfold cl; repeat' split
                                                         all_goals omega
theorem rclass_ok (n : Int) : SemF Try.prog 15 [.int .u8 n] ⟨0, 0, []⟩ (fun v _ => v = .int .i64 (cl n) ∧ nameless v = true) := by
  refine enter tt_ok Try.func15 (nt := 31) (cd := body Try.f15) rfl rfl rfl rfl ?_
  intro _; refine ⟨fun g => ?_, fun g => ?_⟩
  · have g := of_decide_eq_true (show decide (n ≥ 97) = true from g)
    intro _; refine ⟨fun g => ?_, fun g => ?_⟩
    · have g := of_decide_eq_true (show decide (n ≤ 122) = true from g)
      intro _
      exact ⟨by rw [show cl n = 1 by (unfold cl; repeat' split) <;> omega], rfl⟩
    · have g := of_decide_eq_false (show decide (n ≤ 122) = false from g)
      intro _; refine ⟨fun g => ?_, fun g => ?_⟩
      · have g := of_decide_eq_true (show decide (n ≥ 65) = true from g)
        intro _; refine ⟨fun g => ?_, fun g => ?_⟩
        · have g := of_decide_eq_true (show decide (n ≤ 90) = true from g)
          intro _
          exact ⟨by rw [show cl n = 2 by (unfold cl; repeat' split) <;> omega], rfl⟩
        · have g := of_decide_eq_false (show decide (n ≤ 90) = false from g)
          intro _; refine ⟨fun g => ?_, fun g => ?_⟩
          · have g := of_decide_eq_true (show decide (n ≥ 48) = true from g)
            intro _; refine ⟨fun g => ?_, fun g => ?_⟩
            · have g := of_decide_eq_true (show decide (n ≤ 57) = true from g)
              intro _
              exact ⟨by rw [show cl n = 3 by (unfold cl; repeat' split) <;> omega], rfl⟩
            · have g := of_decide_eq_false (show decide (n ≤ 57) = false from g)
              intro _; refine ⟨fun g => ?_, fun g => ?_⟩
              · have g : (n == 32) = true := g
                have g : n = 32 := by simpa using g
                intro _
                exact ⟨by rw [show cl n = 4 by (unfold cl; repeat' split) <;> omega], rfl⟩
              · have g : (n == 32) = false := g
                have g : ¬ n = 32 := by simpa using g
                intro _; refine ⟨fun g => ?_, fun g => ?_⟩
                · have g : (n == 126) = true := g
                  have g : n = 126 := by simpa using g
                  intro _
                  exact ⟨by rw [show cl n = 6 by (unfold cl; repeat' split) <;> omega], rfl⟩
                · have g : (n == 126) = false := g
                  have g : ¬ n = 126 := by simpa using g
                  intro _; refine ⟨fun g => ?_, fun g => ?_⟩
                  · have g := of_decide_eq_true (show decide (n > 32) = true from g)
                    intro _; refine ⟨fun g => ?_, fun g => ?_⟩
                    · have g := of_decide_eq_true (show decide (n < 126) = true from g)
                      intro _
                      exact ⟨by rw [show cl n = 5 by (unfold cl; repeat' split) <;> omega], rfl⟩
                    · have g := of_decide_eq_false (show decide (n < 126) = false from g)
                      intro _
                      exact ⟨by rw [show cl n = 0 by (unfold cl; repeat' split) <;> omega], rfl⟩
                  · have g := of_decide_eq_false (show decide (n > 32) = false from g)
                    intro _
                    exact ⟨by rw [show cl n = 0 by (unfold cl; repeat' split) <;> omega], rfl⟩
          · have g := of_decide_eq_false (show decide (n ≥ 48) = false from g)
            intro _; refine ⟨fun g => ?_, fun g => ?_⟩
            · have g : (n == 32) = true := g
              have g : n = 32 := by simpa using g
              intro _
              exact ⟨by rw [show cl n = 4 by (unfold cl; repeat' split) <;> omega], rfl⟩
            · have g : (n == 32) = false := g
              have g : ¬ n = 32 := by simpa using g
              intro _; refine ⟨fun g => ?_, fun g => ?_⟩
              · have g : (n == 126) = true := g
                have g : n = 126 := by simpa using g
                intro _
                exact ⟨by rw [show cl n = 6 by (unfold cl; repeat' split) <;> omega], rfl⟩
              · have g : (n == 126) = false := g
                have g : ¬ n = 126 := by simpa using g
                intro _; refine ⟨fun g => ?_, fun g => ?_⟩
                · have g := of_decide_eq_true (show decide (n > 32) = true from g)
                  intro _; refine ⟨fun g => ?_, fun g => ?_⟩
                  · have g := of_decide_eq_true (show decide (n < 126) = true from g)
                    intro _
                    exact ⟨by rw [show cl n = 5 by (unfold cl; repeat' split) <;> omega], rfl⟩
                  · have g := of_decide_eq_false (show decide (n < 126) = false from g)
                    intro _
                    exact ⟨by rw [show cl n = 0 by (unfold cl; repeat' split) <;> omega], rfl⟩
                · have g := of_decide_eq_false (show decide (n > 32) = false from g)
                  intro _
                  exact ⟨by rw [show cl n = 0 by (unfold cl; repeat' split) <;> omega], rfl⟩
      · have g := of_decide_eq_false (show decide (n ≥ 65) = false from g)
        intro _; refine ⟨fun g => ?_, fun g => ?_⟩
        · have g := of_decide_eq_true (show decide (n ≥ 48) = true from g)
          intro _; refine ⟨fun g => ?_, fun g => ?_⟩
          · have g := of_decide_eq_true (show decide (n ≤ 57) = true from g)
            intro _
            exact ⟨by rw [show cl n = 3 by (unfold cl; repeat' split) <;> omega], rfl⟩
          · have g := of_decide_eq_false (show decide (n ≤ 57) = false from g)
            intro _; refine ⟨fun g => ?_, fun g => ?_⟩
            · have g : (n == 32) = true := g
              have g : n = 32 := by simpa using g
              intro _
              exact ⟨by rw [show cl n = 4 by (unfold cl; repeat' split) <;> omega], rfl⟩
            · have g : (n == 32) = false := g
              have g : ¬ n = 32 := by simpa using g
              intro _; refine ⟨fun g => ?_, fun g => ?_⟩
              · have g : (n == 126) = true := g
                have g : n = 126 := by simpa using g
                intro _
                exact ⟨by rw [show cl n = 6 by (unfold cl; repeat' split) <;> omega], rfl⟩
              · have g : (n == 126) = false := g
                have g : ¬ n = 126 := by simpa using g
                intro _; refine ⟨fun g => ?_, fun g => ?_⟩
                · have g := of_decide_eq_true (show decide (n > 32) = true from g)
                  intro _; refine ⟨fun g => ?_, fun g => ?_⟩
                  · have g := of_decide_eq_true (show decide (n < 126) = true from g)
                    intro _
                    exact ⟨by rw [show cl n = 5 by (unfold cl; repeat' split) <;> omega], rfl⟩
                  · have g := of_decide_eq_false (show decide (n < 126) = false from g)
                    intro _
                    exact ⟨by rw [show cl n = 0 by (unfold cl; repeat' split) <;> omega], rfl⟩
                · have g := of_decide_eq_false (show decide (n > 32) = false from g)
                  intro _
                  exact ⟨by rw [show cl n = 0 by (unfold cl; repeat' split) <;> omega], rfl⟩
        · have g := of_decide_eq_false (show decide (n ≥ 48) = false from g)
          intro _; refine ⟨fun g => ?_, fun g => ?_⟩
          · have g : (n == 32) = true := g
            have g : n = 32 := by simpa using g
            intro _
            exact ⟨by rw [show cl n = 4 by (unfold cl; repeat' split) <;> omega], rfl⟩
          · have g : (n == 32) = false := g
            have g : ¬ n = 32 := by simpa using g
            intro _; refine ⟨fun g => ?_, fun g => ?_⟩
            · have g : (n == 126) = true := g
              have g : n = 126 := by simpa using g
              intro _
              exact ⟨by rw [show cl n = 6 by (unfold cl; repeat' split) <;> omega], rfl⟩
            · have g : (n == 126) = false := g
              have g : ¬ n = 126 := by simpa using g
              intro _; refine ⟨fun g => ?_, fun g => ?_⟩
              · have g := of_decide_eq_true (show decide (n > 32) = true from g)
                intro _; refine ⟨fun g => ?_, fun g => ?_⟩
                · have g := of_decide_eq_true (show decide (n < 126) = true from g)
                  intro _
                  exact ⟨by rw [show cl n = 5 by (unfold cl; repeat' split) <;> omega], rfl⟩
                · have g := of_decide_eq_false (show decide (n < 126) = false from g)
                  intro _
                  exact ⟨by rw [show cl n = 0 by (unfold cl; repeat' split) <;> omega], rfl⟩
              · have g := of_decide_eq_false (show decide (n > 32) = false from g)
                intro _
                exact ⟨by rw [show cl n = 0 by (unfold cl; repeat' split) <;> omega], rfl⟩
  · have g := of_decide_eq_false (show decide (n ≥ 97) = false from g)
    intro _; refine ⟨fun g => ?_, fun g => ?_⟩
    · have g := of_decide_eq_true (show decide (n ≥ 65) = true from g)
      intro _; refine ⟨fun g => ?_, fun g => ?_⟩
      · have g := of_decide_eq_true (show decide (n ≤ 90) = true from g)
        intro _
        exact ⟨by rw [show cl n = 2 by (unfold cl; repeat' split) <;> omega], rfl⟩
      · have g := of_decide_eq_false (show decide (n ≤ 90) = false from g)
        intro _; refine ⟨fun g => ?_, fun g => ?_⟩
        · have g := of_decide_eq_true (show decide (n ≥ 48) = true from g)
          intro _; refine ⟨fun g => ?_, fun g => ?_⟩
          · have g := of_decide_eq_true (show decide (n ≤ 57) = true from g)
            intro _
            exact ⟨by rw [show cl n = 3 by (unfold cl; repeat' split) <;> omega], rfl⟩
          · have g := of_decide_eq_false (show decide (n ≤ 57) = false from g)
            intro _; refine ⟨fun g => ?_, fun g => ?_⟩
            · have g : (n == 32) = true := g
              have g : n = 32 := by simpa using g
              intro _
              exact ⟨by rw [show cl n = 4 by (unfold cl; repeat' split) <;> omega], rfl⟩
            · have g : (n == 32) = false := g
              have g : ¬ n = 32 := by simpa using g
              intro _; refine ⟨fun g => ?_, fun g => ?_⟩
              · have g : (n == 126) = true := g
                have g : n = 126 := by simpa using g
                intro _
                exact ⟨by rw [show cl n = 6 by (unfold cl; repeat' split) <;> omega], rfl⟩
              · have g : (n == 126) = false := g
                have g : ¬ n = 126 := by simpa using g
                intro _; refine ⟨fun g => ?_, fun g => ?_⟩
                · have g := of_decide_eq_true (show decide (n > 32) = true from g)
                  intro _; refine ⟨fun g => ?_, fun g => ?_⟩
                  · have g := of_decide_eq_true (show decide (n < 126) = true from g)
                    intro _
                    exact ⟨by rw [show cl n = 5 by (unfold cl; repeat' split) <;> omega], rfl⟩
                  · have g := of_decide_eq_false (show decide (n < 126) = false from g)
                    intro _
                    exact ⟨by rw [show cl n = 0 by (unfold cl; repeat' split) <;> omega], rfl⟩
                · have g := of_decide_eq_false (show decide (n > 32) = false from g)
                  intro _
                  exact ⟨by rw [show cl n = 0 by (unfold cl; repeat' split) <;> omega], rfl⟩
        · have g := of_decide_eq_false (show decide (n ≥ 48) = false from g)
          intro _; refine ⟨fun g => ?_, fun g => ?_⟩
          · have g : (n == 32) = true := g
            have g : n = 32 := by simpa using g
            intro _
            exact ⟨by rw [show cl n = 4 by (unfold cl; repeat' split) <;> omega], rfl⟩
          · have g : (n == 32) = false := g
            have g : ¬ n = 32 := by simpa using g
            intro _; refine ⟨fun g => ?_, fun g => ?_⟩
            · have g : (n == 126) = true := g
              have g : n = 126 := by simpa using g
              intro _
              exact ⟨by rw [show cl n = 6 by (unfold cl; repeat' split) <;> omega], rfl⟩
            · have g : (n == 126) = false := g
              have g : ¬ n = 126 := by simpa using g
              intro _; refine ⟨fun g => ?_, fun g => ?_⟩
              · have g := of_decide_eq_true (show decide (n > 32) = true from g)
                intro _; refine ⟨fun g => ?_, fun g => ?_⟩
                · have g := of_decide_eq_true (show decide (n < 126) = true from g)
                  intro _
                  exact ⟨by rw [show cl n = 5 by (unfold cl; repeat' split) <;> omega], rfl⟩
                · have g := of_decide_eq_false (show decide (n < 126) = false from g)
                  intro _
                  exact ⟨by rw [show cl n = 0 by (unfold cl; repeat' split) <;> omega], rfl⟩
              · have g := of_decide_eq_false (show decide (n > 32) = false from g)
                intro _
                exact ⟨by rw [show cl n = 0 by (unfold cl; repeat' split) <;> omega], rfl⟩
    · have g := of_decide_eq_false (show decide (n ≥ 65) = false from g)
      intro _; refine ⟨fun g => ?_, fun g => ?_⟩
      · have g := of_decide_eq_true (show decide (n ≥ 48) = true from g)
        intro _; refine ⟨fun g => ?_, fun g => ?_⟩
        · have g := of_decide_eq_true (show decide (n ≤ 57) = true from g)
          intro _
          exact ⟨by rw [show cl n = 3 by (unfold cl; repeat' split) <;> omega], rfl⟩
        · have g := of_decide_eq_false (show decide (n ≤ 57) = false from g)
          intro _; refine ⟨fun g => ?_, fun g => ?_⟩
          · have g : (n == 32) = true := g
            have g : n = 32 := by simpa using g
            intro _
            exact ⟨by rw [show cl n = 4 by (unfold cl; repeat' split) <;> omega], rfl⟩
          · have g : (n == 32) = false := g
            have g : ¬ n = 32 := by simpa using g
            intro _; refine ⟨fun g => ?_, fun g => ?_⟩
            · have g : (n == 126) = true := g
              have g : n = 126 := by simpa using g
              intro _
              exact ⟨by rw [show cl n = 6 by (unfold cl; repeat' split) <;> omega], rfl⟩
            · have g : (n == 126) = false := g
              have g : ¬ n = 126 := by simpa using g
              intro _; refine ⟨fun g => ?_, fun g => ?_⟩
              · have g := of_decide_eq_true (show decide (n > 32) = true from g)
                intro _; refine ⟨fun g => ?_, fun g => ?_⟩
                · have g := of_decide_eq_true (show decide (n < 126) = true from g)
                  intro _
                  exact ⟨by rw [show cl n = 5 by (unfold cl; repeat' split) <;> omega], rfl⟩
                · have g := of_decide_eq_false (show decide (n < 126) = false from g)
                  intro _
                  exact ⟨by rw [show cl n = 0 by (unfold cl; repeat' split) <;> omega], rfl⟩
              · have g := of_decide_eq_false (show decide (n > 32) = false from g)
                intro _
                exact ⟨by rw [show cl n = 0 by (unfold cl; repeat' split) <;> omega], rfl⟩
      · have g := of_decide_eq_false (show decide (n ≥ 48) = false from g)
        intro _; refine ⟨fun g => ?_, fun g => ?_⟩
        · have g : (n == 32) = true := g
          have g : n = 32 := by simpa using g
          intro _
          exact ⟨by rw [show cl n = 4 by (unfold cl; repeat' split) <;> omega], rfl⟩
        · have g : (n == 32) = false := g
          have g : ¬ n = 32 := by simpa using g
          intro _; refine ⟨fun g => ?_, fun g => ?_⟩
          · have g : (n == 126) = true := g
            have g : n = 126 := by simpa using g
            intro _
            exact ⟨by rw [show cl n = 6 by (unfold cl; repeat' split) <;> omega], rfl⟩
          · have g : (n == 126) = false := g
            have g : ¬ n = 126 := by simpa using g
            intro _; refine ⟨fun g => ?_, fun g => ?_⟩
            · have g := of_decide_eq_true (show decide (n > 32) = true from g)
              intro _; refine ⟨fun g => ?_, fun g => ?_⟩
              · have g := of_decide_eq_true (show decide (n < 126) = true from g)
                intro _
                exact ⟨by rw [show cl n = 5 by (unfold cl; repeat' split) <;> omega], rfl⟩
              · have g := of_decide_eq_false (show decide (n < 126) = false from g)
                intro _
                exact ⟨by rw [show cl n = 0 by (unfold cl; repeat' split) <;> omega], rfl⟩
            · have g := of_decide_eq_false (show decide (n > 32) = false from g)
              intro _
              exact ⟨by rw [show cl n = 0 by (unfold cl; repeat' split) <;> omega], rfl⟩
theorem dig_test (n : Int) (h : H) (K : V → H → Prop) (hK : K (.test (decide (48 ≤ n ∧ n ≤ 57))) h) : SemF Try.prog 36 [.int .i32 n] h K := by
  refine SemF.test ?_
  refine enter tt_ok Try.func36 (nt := 9) (cd := body Try.f36) rfl rfl rfl rfl ?_
  intro _; refine ⟨fun g => ?_, fun g => ?_⟩
  · have g := of_decide_eq_true (show decide (n ≥ 48) = true from g)
    intro _
    refine ⟨_, .inr rfl, ?_⟩
    have : decide (48 ≤ n ∧ n ≤ 57) = decide (n ≤ 57) := by
      by_cases e : n ≤ 57
      · rw [decide_eq_true e, decide_eq_true (show 48 ≤ n ∧ n ≤ 57 from ⟨by omega, e⟩)]
      · rw [decide_eq_false e, decide_eq_false (fun m => e m.2)]
    rw [← this]; exact hK
  · have g := of_decide_eq_false (show decide (n ≥ 48) = false from g)
    intro _
    refine ⟨false, .inl rfl, ?_⟩
    have : decide (48 ≤ n ∧ n ≤ 57) = false := decide_eq_false (fun m => by have := m.1; omega)
    rw [← this]; exact hK
theorem cap_test (n : Int) (h : H) (K : V → H → Prop) (hK : K (.test (decide (65 ≤ n ∧ n ≤ 90))) h) : SemF Try.prog 37 [.int .i32 n] h K := by
  refine SemF.test ?_
  refine enter tt_ok Try.func37 (nt := 9) (cd := body Try.f37) rfl rfl rfl rfl ?_
  intro _; refine ⟨fun g => ?_, fun g => ?_⟩
  · have g := of_decide_eq_true (show decide (n ≥ 65) = true from g)
    intro _
    refine ⟨_, .inr rfl, ?_⟩
    have : decide (65 ≤ n ∧ n ≤ 90) = decide (n ≤ 90) := by
      by_cases e : n ≤ 90
      · rw [decide_eq_true e, decide_eq_true (show 65 ≤ n ∧ n ≤ 90 from ⟨by omega, e⟩)]
      · rw [decide_eq_false e, decide_eq_false (fun m => e m.2)]
    rw [← this]; exact hK
  · have g := of_decide_eq_false (show decide (n ≥ 65) = false from g)
    intro _
    refine ⟨false, .inl rfl, ?_⟩
    have : decide (65 ≤ n ∧ n ≤ 90) = false := decide_eq_false (fun m => by have := m.1; omega)
    rw [← this]; exact hK
theorem sml_test (n : Int) (h : H) (K : V → H → Prop) (hK : K (.test (decide (97 ≤ n ∧ n ≤ 122))) h) : SemF Try.prog 38 [.int .i32 n] h K := by
  refine SemF.test ?_
  refine enter tt_ok Try.func38 (nt := 9) (cd := body Try.f38) rfl rfl rfl rfl ?_
  intro _; refine ⟨fun g => ?_, fun g => ?_⟩
  · have g := of_decide_eq_true (show decide (n ≥ 97) = true from g)
    intro _
    refine ⟨_, .inr rfl, ?_⟩
    have : decide (97 ≤ n ∧ n ≤ 122) = decide (n ≤ 122) := by
      by_cases e : n ≤ 122
      · rw [decide_eq_true e, decide_eq_true (show 97 ≤ n ∧ n ≤ 122 from ⟨by omega, e⟩)]
      · rw [decide_eq_false e, decide_eq_false (fun m => e m.2)]
    rw [← this]; exact hK
  · have g := of_decide_eq_false (show decide (n ≥ 97) = false from g)
    intro _
    refine ⟨false, .inl rfl, ?_⟩
    have : decide (97 ≤ n ∧ n ≤ 122) = false := decide_eq_false (fun m => by have := m.1; omega)
    rw [← this]; exact hK
def sg (n : Int) : Bool := decide (32 < n ∧ n < 126 ∧ ¬ (97 ≤ n ∧ n ≤ 122) ∧ ¬ (65 ≤ n ∧ n ≤ 90) ∧ ¬ (48 ≤ n ∧ n ≤ 57))
theorem sign_test (n : Int) (h : H) (K : V → H → Prop) (hK : K (.test (sg n)) h) : SemF Try.prog 35 [.int .i32 n] h K := by
  refine SemF.test ?_
  refine enter tt_ok Try.func35 (nt := 24) (cd := body Try.f35) rfl rfl rfl rfl ?_
  have no : ∀ P : Prop, (sg n = true → P) → ¬ P → ∃ b, (V.bool false = .bool b ∨ V.bool false = .test b) ∧ K (.test b) h := fun P h1 h2 => ⟨false, .inl rfl, by
    have : sg n = false := by
      cases e : sg n with
      | false => rfl
      | true => exact absurd (h1 e) h2
    rw [← this]; exact hK⟩
  have un : sg n = true → (32 < n ∧ n < 126 ∧ ¬ (97 ≤ n ∧ n ≤ 122) ∧ ¬ (65 ≤ n ∧ n ≤ 90) ∧ ¬ (48 ≤ n ∧ n ≤ 57)) := fun h => of_decide_eq_true h
  intro _; refine ⟨fun g => ?_, fun g => ?_⟩
  rotate_left
  · have g := of_decide_eq_false (show decide (n > 32) = false from g)
    intro _
    exact no (32 < n) (fun h => (un h).1) (by omega)
  have g1 := of_decide_eq_true (show decide (n > 32) = true from g)
  intro _; refine ⟨fun g => ?_, fun g => ?_⟩
  rotate_left
  · have g := of_decide_eq_false (show decide (n < 126) = false from g)
    intro _
    exact no (n < 126) (fun h => (un h).2.1) (by omega)
  have g2 := of_decide_eq_true (show decide (n < 126) = true from g)
  intro _
  refine sml_test _ _ _ ?_
  intro _; refine ⟨fun g => ?_, fun g => ?_⟩
  rotate_left
  · have g : (!decide (97 ≤ n ∧ n ≤ 122)) = false := g
    rw [Bool.not_eq_false'] at g
    have g := of_decide_eq_true g
    intro _
    exact no (¬ (97 ≤ n ∧ n ≤ 122)) (fun h => (un h).2.2.1) (fun h => h g)
  have g : (!decide (97 ≤ n ∧ n ≤ 122)) = true := g
  rw [Bool.not_eq_true'] at g
  have g3 := of_decide_eq_false g
  intro _
  refine cap_test _ _ _ ?_
  intro _; refine ⟨fun g => ?_, fun g => ?_⟩
  rotate_left
  · have g : (!decide (65 ≤ n ∧ n ≤ 90)) = false := g
    rw [Bool.not_eq_false'] at g
    have g := of_decide_eq_true g
    intro _
    exact no (¬ (65 ≤ n ∧ n ≤ 90)) (fun h => (un h).2.2.2.1) (fun h => h g)
  have g : (!decide (65 ≤ n ∧ n ≤ 90)) = true := g
  rw [Bool.not_eq_true'] at g
  have g4 := of_decide_eq_false g
  intro _
  refine dig_test _ _ _ ?_
  intro _
  refine ⟨_, .inr rfl, ?_⟩
  have : sg n = !decide (48 ≤ n ∧ n ≤ 57) := by
    by_cases e : 48 ≤ n ∧ n ≤ 57
    · rw [decide_eq_true e]; exact decide_eq_false (fun h => h.2.2.2.2 e)
    · rw [decide_eq_false e]; exact decide_eq_true ⟨g1, g2, g3, g4, e⟩
  rw [← this]; exact hK
theorem class_ok (n : Int) : SemF Try.prog 28 [.int .i32 n] ⟨0, 0, []⟩ (fun v _ => v = .int .i64 (cl n) ∧ nameless v = true) := by
  refine enter tt_ok Try.func28 (nt := 35) (cd := body Try.f28) rfl rfl rfl rfl ?_
  intro _; refine ⟨fun g => ?_, fun g => ?_⟩
  · have g : (n == 126) = true := g
    have g : n = 126 := by simpa using g
    intro _
    refine ⟨?_, rfl⟩
    rw [show cl n = 6 by (unfold cl; repeat' split) <;> omega]
    rfl
  have g : (n == 126) = false := g
  have g6 : ¬ n = 126 := by simpa using g
  intro _
  refine sign_test _ _ _ ?_
  intro _; refine ⟨fun g => ?_, fun g => ?_⟩
  · have g := of_decide_eq_true (show decide (32 < n ∧ n < 126 ∧ ¬ (97 ≤ n ∧ n ≤ 122) ∧ ¬ (65 ≤ n ∧ n ≤ 90) ∧ ¬ (48 ≤ n ∧ n ≤ 57)) = true from g)
    intro _
    refine ⟨?_, rfl⟩
    rw [show cl n = 5 by (unfold cl; repeat' split) <;> omega]
    rfl
  have g5 := of_decide_eq_false (show decide (32 < n ∧ n < 126 ∧ ¬ (97 ≤ n ∧ n ≤ 122) ∧ ¬ (65 ≤ n ∧ n ≤ 90) ∧ ¬ (48 ≤ n ∧ n ≤ 57)) = false from g)
  intro _; refine ⟨fun g => ?_, fun g => ?_⟩
  · have g : (n == 32) = true := g
    have g : n = 32 := by simpa using g
    intro _
    refine ⟨?_, rfl⟩
    rw [show cl n = 4 by (unfold cl; repeat' split) <;> omega]
    rfl
  have g : (n == 32) = false := g
  have g4 : ¬ n = 32 := by simpa using g
  intro _
  refine dig_test _ _ _ ?_
  intro _; refine ⟨fun g => ?_, fun g => ?_⟩
  · have g := of_decide_eq_true (show decide (48 ≤ n ∧ n ≤ 57) = true from g)
    intro _
    refine ⟨?_, rfl⟩
    rw [show cl n = 3 by (unfold cl; repeat' split) <;> omega]
    rfl
  have g3 := of_decide_eq_false (show decide (48 ≤ n ∧ n ≤ 57) = false from g)
  intro _
  refine cap_test _ _ _ ?_
  intro _; refine ⟨fun g => ?_, fun g => ?_⟩
  · have g := of_decide_eq_true (show decide (65 ≤ n ∧ n ≤ 90) = true from g)
    intro _
    refine ⟨?_, rfl⟩
    rw [show cl n = 2 by (unfold cl; repeat' split) <;> omega]
    rfl
  have g2 := of_decide_eq_false (show decide (65 ≤ n ∧ n ≤ 90) = false from g)
  intro _
  refine sml_test _ _ _ ?_
  intro _; refine ⟨fun g => ?_, fun g => ?_⟩
  · have g := of_decide_eq_true (show decide (97 ≤ n ∧ n ≤ 122) = true from g)
    intro _
    refine ⟨?_, rfl⟩
    rw [show cl n = 1 by (unfold cl; repeat' split) <;> omega]
    rfl
  have g1 := of_decide_eq_false (show decide (97 ≤ n ∧ n ≤ 122) = false from g)
  intro _
  refine ⟨?_, rfl⟩
  rw [show cl n = 0 by (unfold cl; repeat' split) <;> omega]
/-! texts -/
def by' (s : List UInt8) (i : Nat) : Int := ((s.getD i 0).toNat : Int)
def VA (s : List UInt8) : Prop := s.length ≤ 2000 ∧ ∀ i, i < s.length → cl (by' s i) ≠ 0
instance decVA (s : List UInt8) : Decidable (VA s) := inferInstanceAs (Decidable (_ ∧ _))
theorem ba_get {s : List UInt8} {k : Nat} (h : k < s.length) : ∃ h' : k < (ByteArray.mk s.toArray).size, (ByteArray.mk s.toArray)[k]'h' = s[k] :=
  ⟨by simpa [ByteArray.size] using h, by show s.toArray[k]'_ = s[k]; simp⟩
theorem rune_low {s : List UInt8} {k : Nat} (h : k < s.length) (hb : by' s k < 128) : rune s k = ((s.getD k 0).toNat, 1) := by
  have e : s.getD k 0 = s[k] := by rw [List.getD_eq_getElem?_getD, List.getElem?_eq_getElem h]; rfl
  unfold by' at hb
  rw [e] at hb ⊢
  obtain ⟨h', e'⟩ := ba_get h
  have := Go.decode_ascii ⟨s.toArray⟩ k h' (by rw [e']; omega)
  rw [e'] at this
  exact this
theorem rune_high {s : List UInt8} {k : Nat} (h : k < s.length) (hb : 128 ≤ by' s k) : 128 ≤ (rune s k).1 := by
  have e : s.getD k 0 = s[k] := by rw [List.getD_eq_getElem?_getD, List.getElem?_eq_getElem h]; rfl
  unfold by' at hb
  rw [e] at hb
  obtain ⟨h', e'⟩ := ba_get h
  exact (Go.decode_high ⟨s.toArray⟩ k h' (by rw [e']; omega)).1
theorem by_succ {s : List UInt8} {k : Nat} (hm : ∀ i, i < k → cl (by' s i) ≠ 0) (h : cl (by' s k) ≠ 0) : ∀ i, i < k + 1 → cl (by' s i) ≠ 0 := fun i hi => by
  by_cases e : i = k
  · subst e; exact h
  · exact hm i (by omega)
theorem rvalid_ok (s : List UInt8) (hl : s.length ≤ 9223372036854775807) : SemF Try.prog 13 [.str s] ⟨0, 0, []⟩ (fun v _ => v = .test (decide (VA s)) ∧ nameless v = true) := by
  refine SemF.test ?_
  refine enter tt_ok Try.func13 (nt := 18) (cd := body Try.f13) rfl rfl rfl rfl ?_
  intro _
  refine loop2 tt_ok [3] [] 0 (fun k : { k : Nat // k ≤ s.length ∧ ∀ i, i < k → cl (by' s i) ≠ 0 } => [(3, .int .i64 (k : Nat))]) (fun _ => []) (fun k => s.length - k) ⟨0, by omega, fun i h => by omega⟩ ?_
  intro _
  refine ⟨⟨th [] 0, rfl, rfl, rfl, rfl, rfl, rfl, ?_, ?_⟩, ?_⟩
  · (repeat' first | exact trivial | exact rfl | refine And.intro ?_ ?_)
  · (repeat' first | exact trivial | exact rfl | refine And.intro ?_ ?_)
  intro ⟨k, hk, hmk⟩
  intro _; refine ⟨fun g => ?_, fun g => ?_⟩
  rotate_left
  · have hkl := of_decide_eq_false (show decide ((k : Int) < (s.length : Int)) = false from g)
    have hkl : k = s.length := by omega
    subst hkl
    intro _
    refine ⟨_, .inr rfl, ?_, rfl⟩
    by_cases e : s.length ≤ 2000
    · rw [decide_eq_true (show (s.length : Int) ≤ 2000 by omega), decide_eq_true (show VA s from ⟨e, hmk⟩)]
    · rw [decide_eq_false (show ¬ (s.length : Int) ≤ 2000 by omega), decide_eq_false (fun h : VA s => e h.1)]
  have hkl := of_decide_eq_true (show decide ((k : Int) < (s.length : Int)) = true from g)
  intro _; refine ⟨show 0 ≤ (k : Int) ∧ (k : Int) < (s.length : Int) by omega, ?_⟩
  intro _
  refine call_pure [] (rclass_ok (by' s k)) rfl rfl rfl ?_ ?_ ?_
  · (repeat' first | exact trivial | exact rfl | refine And.intro ?_ ?_)
  · (repeat' first | exact trivial | exact rfl | refine And.intro ?_ ?_)
  intro v hv _
  subst hv
  intro _; refine ⟨fun g => ?_, fun g => ?_⟩
  · have g : (cl (by' s k) == 0) = true := g
    have g : cl (by' s k) = 0 := by simpa using g
    intro _
    exact ⟨false, .inl rfl, by rw [decide_eq_false (fun h : VA s => h.2 k (by omega) g)], rfl⟩
  have g : (cl (by' s k) == 0) = false := g
  have g : cl (by' s k) ≠ 0 := by simpa using g
  refine ⟨⟨k + 1, by omega, by_succ hmk g⟩, by simp; omega, th [] 0, rfl, rfl, rfl, rfl, rfl, rfl, ?_, ?_⟩
  · (repeat' first | exact trivial | exact rfl | refine And.intro ?_ ?_)
    exact (wrap_nat k (by omega)).symm
  · (repeat' first | exact trivial | exact rfl | refine And.intro ?_ ?_)
theorem valid_ok (s : List UInt8) (hl : s.length ≤ 9223372036854775807) : SemF Try.prog 12 [.str s] ⟨0, 0, []⟩ (fun v _ => v = .test (decide (VA s)) ∧ nameless v = true) := by
  refine SemF.test ?_
  refine enter tt_ok Try.func12 (nt := 16) (cd := body Try.f12) rfl rfl rfl rfl ?_
  intro _; refine ⟨fun g => ?_, fun g => ?_⟩
  · have g := of_decide_eq_true (show decide ((s.length : Int) > 2000) = true from g)
    intro _
    exact ⟨false, .inl rfl, by rw [decide_eq_false (fun h : VA s => by have := h.1; omega)], rfl⟩
  have g2 := of_decide_eq_false (show decide ((s.length : Int) > 2000) = false from g)
  intro _
  refine loop2 tt_ok [] [0] 1 (fun k : { k : Nat // k ≤ s.length ∧ ∀ i, i < k → cl (by' s i) ≠ 0 } => []) (fun k => [(0, .sit s (k : Nat))]) (fun k => s.length - k) ⟨0, by omega, fun i h => by omega⟩ ?_
  intro _
  refine ⟨⟨th [] 1, rfl, rfl, rfl, rfl, rfl, rfl, ?_, ?_⟩, ?_⟩
  · (repeat' first | exact trivial | exact rfl | refine And.intro ?_ ?_)
  · (repeat' first | exact trivial | exact rfl | refine And.intro ?_ ?_)
  intro ⟨k, hk, hmk⟩
  intro _; refine ⟨fun g => ?_, fun g => ?_⟩
  rotate_left
  · have hkl := of_decide_eq_false (show decide (k < s.length) = false from g)
    have hkl : k = s.length := by omega
    subst hkl
    intro _
    exact ⟨true, .inl rfl, by rw [decide_eq_true (show VA s from ⟨by omega, hmk⟩)], rfl⟩
  have hkl := of_decide_eq_true (show decide (k < s.length) = true from g)
  intro _
  refine call_pure [] (class_ok ((rune s k).1 : Int)) rfl rfl rfl ?_ ?_ ?_
  · (repeat' first | exact trivial | exact rfl | refine And.intro ?_ ?_)
  · (repeat' first | exact trivial | exact rfl | refine And.intro ?_ ?_)
  intro v hv _
  subst hv
  intro _; refine ⟨fun g => ?_, fun g => ?_⟩
  · have g : (cl ((rune s k).1 : Int) == 0) = true := g
    have g : cl ((rune s k).1 : Int) = 0 := by simpa using g
    intro _
    refine ⟨false, .inl rfl, ?_, rfl⟩
    rw [decide_eq_false (fun h : VA s => ?_)]
    refine h.2 k hkl ?_
    by_cases hb : by' s k < 128
    · rw [rune_low hkl hb] at g; exact g
    · exact cl_high (by omega)
  have g : (cl ((rune s k).1 : Int) == 0) = false := g
  have g : cl ((rune s k).1 : Int) ≠ 0 := by simpa using g
  have hb : by' s k < 128 := by
    rcases Int.lt_or_le (by' s k) 128 with h | h
    · exact h
    · exact absurd (cl_high (show (128 : Int) ≤ (rune s k).1 by have := rune_high hkl h; omega)) g
  have er := rune_low hkl hb
  refine ⟨⟨k + 1, by omega, by_succ hmk (by rw [er] at g; exact g)⟩, by simp; omega, th [] 1, rfl, rfl, rfl, rfl, rfl, rfl, ?_, ?_⟩
  · (repeat' first | exact trivial | exact rfl | refine And.intro ?_ ?_)
  · (repeat' first | exact trivial | exact rfl | refine And.intro ?_ ?_)
    show k + 1 = k + (rune s k).2
    rw [er]
/-! words -/
def stw (c : Int × Bool) (b : Int) : Int × Bool := if b = 32 then (c.1, false) else if b ≠ 126 ∧ c.2 = false then (c.1 + 1, true) else c
def wk (s : List UInt8) : Nat → Int × Bool
  | 0 => (0, false)
  | k + 1 => stw (wk s k) (by' s k)
theorem wk_bd (s : List UInt8) : ∀ k, 0 ≤ (wk s k).1 ∧ (wk s k).1 ≤ k
  | 0 => by simp [wk]
  | k + 1 => by
    have := wk_bd s k
    simp only [wk, stw]
    split
    · simp only []; omega
    · split
      · simp only []; omega
      · omega
def WQ (s : List UInt8) : V := if VA s then .tup [.int .i64 (wk s s.length).1, .int .i64 0] else .tup [.int .i64 0, .int .i64 1]
theorem words_ok (s : List UInt8) (hl : s.length ≤ 9223372036854775807) : SemF Try.prog 16 [.str s] ⟨0, 0, []⟩ (fun v _ => v = WQ s ∧ nameless v = true) := by
  refine enter tt_ok Try.func16 (nt := 13) (cd := body Try.f16) rfl rfl rfl rfl ?_
  intro _
  refine call_pure [] (valid_ok s hl) rfl rfl rfl ?_ ?_ ?_
  · (repeat' first | exact trivial | exact rfl | refine And.intro ?_ ?_)
  · (repeat' first | exact trivial | exact rfl | refine And.intro ?_ ?_)
  intro v hv _
  subst hv
  intro _; refine ⟨fun g => ?_, fun g => ?_⟩
  · have g : (!decide (VA s)) = true := g
    rw [Bool.not_eq_true'] at g
    have g := of_decide_eq_false g
    intro _
    exact ⟨by unfold WQ; rw [if_neg g], rfl⟩
  have g : (!decide (VA s)) = false := g
  rw [Bool.not_eq_false'] at g
  have hV := of_decide_eq_true g
  intro _
  refine enter tt_ok Try.func25 (nt := 14) (cd := body Try.f25) rfl rfl rfl rfl ?_
  intro _
  refine loop2 tt_ok [] [0, 1, 2] 3 (fun k : { k : Nat // k ≤ s.length } => []) (fun k => [(0, .cells [.int .i64 (wk s k).1]), (1, .cells [.test (wk s k).2]), (2, .sit s (k : Nat))]) (fun k => s.length - k) ⟨0, by omega⟩ ?_
  intro _
  refine ⟨⟨th [] 3, rfl, rfl, rfl, rfl, rfl, rfl, ?_, ?_⟩, ?_⟩
  · (repeat' first | exact trivial | exact rfl | refine And.intro ?_ ?_)
  · (repeat' first | exact trivial | exact rfl | refine And.intro ?_ ?_)
  intro ⟨k, hk⟩
  intro _; refine ⟨fun g => ?_, fun g => ?_⟩
  rotate_left
  · have hkl := of_decide_eq_false (show decide (k < s.length) = false from g)
    have hkl : k = s.length := by omega
    subst hkl
    intro _
    intro _
    refine ⟨?_, rfl⟩
    unfold WQ
    rw [if_pos hV]
  have hkl := of_decide_eq_true (show decide (k < s.length) = true from g)
  have hb : by' s k < 128 := by
    rcases Int.lt_or_le (by' s k) 128 with h | h
    · exact h
    · exact absurd (cl_high h) (hV.2 k hkl)
  have er := rune_low hkl hb
  have e1 : ((rune s k).1 : Int) = by' s k := by rw [er]; rfl
  have e2 : (rune s k).2 = 1 := by rw [er]
  have wb := wk_bd s k
  have h2 := hV.1
  intro _
  refine enter tt_ok Try.func29 (nt := 16) (cd := body Try.f29) rfl rfl rfl rfl ?_
  intro _; refine ⟨fun g => ?_, fun g => ?_⟩
  · have g : (((rune s k).1 : Int) == 32) = true := g
    rw [e1] at g
    have g : by' s k = 32 := by simpa using g
    intro _
    refine ⟨⟨k + 1, by omega⟩, by simp; omega, th [] 3, rfl, rfl, rfl, rfl, rfl, rfl, ?_, ?_⟩
    · (repeat' first | exact trivial | exact rfl | refine And.intro ?_ ?_)
    · (repeat' first | exact trivial | exact rfl | refine And.intro ?_ ?_)
      · show (stw (wk s k) (by' s k)).1 = (wk s k).1
        unfold stw; rw [if_pos g]
      · show (stw (wk s k) (by' s k)).2 = false
        unfold stw; rw [if_pos g]
      · show k + 1 = k + (rune s k).2
        rw [e2]
  have g : (((rune s k).1 : Int) == 32) = false := g
  rw [e1] at g
  have g32 : ¬ by' s k = 32 := by simpa using g
  intro _; refine ⟨fun g => ?_, fun g => ?_⟩
  rotate_left
  · have g : (((rune s k).1 : Int) != 126) = false := g
    rw [e1] at g
    have g : by' s k = 126 := by simpa using g
    intro _
    refine ⟨⟨k + 1, by omega⟩, by simp; omega, th [] 3, rfl, rfl, rfl, rfl, rfl, rfl, ?_, ?_⟩
    · (repeat' first | exact trivial | exact rfl | refine And.intro ?_ ?_)
    · (repeat' first | exact trivial | exact rfl | refine And.intro ?_ ?_)
      · show (stw (wk s k) (by' s k)).1 = (wk s k).1
        unfold stw; rw [if_neg g32, if_neg (fun h => h.1 g)]
      · show (stw (wk s k) (by' s k)).2 = (wk s k).2
        unfold stw; rw [if_neg g32, if_neg (fun h => h.1 g)]
      · show k + 1 = k + (rune s k).2
        rw [e2]
  have g : (((rune s k).1 : Int) != 126) = true := g
  rw [e1] at g
  have g126 : by' s k ≠ 126 := by simpa using g
  intro _; refine ⟨fun g => ?_, fun g => ?_⟩
  · have g : (!(wk s k).2) = true := g
    have g : (wk s k).2 = false := by simpa using g
    intro _
    refine ⟨⟨k + 1, by omega⟩, by simp; omega, th [] 3, rfl, rfl, rfl, rfl, rfl, rfl, ?_, ?_⟩
    · (repeat' first | exact trivial | exact rfl | refine And.intro ?_ ?_)
    · (repeat' first | exact trivial | exact rfl | refine And.intro ?_ ?_)
      · show (stw (wk s k) (by' s k)).1 = IntKind.i64.wrap ((wk s k).1 + 1)
        unfold stw; rw [if_neg g32, if_pos ⟨g126, g⟩, wrapS _ ⟨by omega, by omega⟩]
      · show (stw (wk s k) (by' s k)).2 = true
        unfold stw; rw [if_neg g32, if_pos ⟨g126, g⟩]
      · show k + 1 = k + (rune s k).2
        rw [e2]
  · have g : (!(wk s k).2) = false := g
    have g : (wk s k).2 = true := by simpa using g
    intro _
    refine ⟨⟨k + 1, by omega⟩, by simp; omega, th [] 3, rfl, rfl, rfl, rfl, rfl, rfl, ?_, ?_⟩
    · (repeat' first | exact trivial | exact rfl | refine And.intro ?_ ?_)
    · (repeat' first | exact trivial | exact rfl | refine And.intro ?_ ?_)
      · show (stw (wk s k) (by' s k)).1 = (wk s k).1
        unfold stw; rw [if_neg g32, if_neg (fun h => by rw [g] at h; exact absurd h.2 (by simp))]
      · show (stw (wk s k) (by' s k)).2 = (wk s k).2
        unfold stw; rw [if_neg g32, if_neg (fun h => by rw [g] at h; exact absurd h.2 (by simp))]
      · show k + 1 = k + (rune s k).2
        rw [e2]
/-! what is shown -/
def sh (s : List UInt8) : List UInt8 := s.filter fun b => b != 126
def nums (l : List UInt8) : List Int := l.map fun b => (b.toNat : Int)
theorem nums_back (l : List UInt8) : ((nums l).map fun n => UInt8.ofNat n.toNat) = l := by
  unfold nums
  rw [List.map_map]
  have : ((fun n : Int => UInt8.ofNat n.toNat) ∘ fun b : UInt8 => (b.toNat : Int)) = id := by
    funext b
    simp
  rw [this, List.map_id]
theorem sh_succ {s : List UInt8} {k : Nat} (h : k < s.length) : sh (s.take (k + 1)) = sh (s.take k) ++ (if by' s k = 126 then [] else [s.getD k 0]) := by
  have e : s.getD k 0 = s[k] := by rw [List.getD_eq_getElem?_getD, List.getElem?_eq_getElem h]; rfl
  unfold sh
  rw [List.take_succ_eq_append_getElem h, List.filter_append, ← e]
  congr 1
  unfold by'
  by_cases q : s.getD k 0 = 126
  · rw [q]; rfl
  · have q2 : ¬ ((s.getD k 0).toNat : Int) = 126 := fun h => q (by
      have : (s.getD k 0).toNat = 126 := by omega
      exact UInt8.toNat_inj.1 this)
    rw [if_neg q2]
    have q3 : (s.getD k 0 != 126) = true := by rw [bne_iff_ne]; exact q
    rw [List.filter_cons, if_pos q3]
    rfl
theorem sh_len (s : List UInt8) (k : Nat) : (sh (s.take k)).length ≤ k := by
  unfold sh
  exact Nat.le_trans (List.length_filter_le _ _) (by simp; omega)
theorem nums_len (l : List UInt8) : (nums l).length = l.length := by simp [nums]
theorem nums_app (a b : List UInt8) : nums (a ++ b) = nums a ++ nums b := by simp [nums]
theorem wrap8 (n : Int) : IntKind.u8.wrap n = n % 256 := by
  simp only [IntKind.wrap, IntKind.bits, IntKind.signed, Bool.false_and, Bool.false_eq_true, if_false]
  rfl
theorem shown_ok (s : List UInt8) (hV : VA s) : SemF Try.prog 27 [.str s] ⟨0, 0, []⟩ (fun v _ => v = .str (sh s) ∧ nameless v = true) := by
  have hl := hV.1
  refine enter tt_ok Try.func27 (nt := 23) (cd := body Try.f27) rfl rfl rfl rfl ?_
  intro _
  refine loop2 tt_ok [4, 3] [0] 1 (fun k : { k : Nat // k ≤ s.length } => [(4, .int .i64 (k : Nat)), (3, .grw 0 (sh (s.take k)).length)]) (fun k => [(0, .arr [.int .u8] .grow (.ints (nums (sh (s.take k)))))]) (fun k => s.length - k) ⟨0, by omega⟩ ?_
  intro _
  refine ⟨⟨th [(0, none)] 1, rfl, rfl, rfl, rfl, rfl, rfl, ?_, ?_⟩, ?_⟩
  · (repeat' first | exact trivial | exact rfl | refine And.intro ?_ ?_)
  · (repeat' first | exact trivial | exact rfl | refine And.intro ?_ ?_)
  intro ⟨k, hk⟩
  intro _; refine ⟨fun g => ?_, fun g => ?_⟩
  rotate_left
  · have hkl := of_decide_eq_false (show decide ((k : Int) < (s.length : Int)) = false from g)
    have hkl : k = s.length := by omega
    subst hkl
    intro _; refine ⟨(nums_len _).symm, ?_⟩
    intro _
    refine ⟨?_, rfl⟩
    show V.str ((nums (sh (s.take s.length))).map fun n => UInt8.ofNat n.toNat) = _
    rw [nums_back, List.take_length]
  have hkl := of_decide_eq_true (show decide ((k : Int) < (s.length : Int)) = true from g)
  have hkn : k < s.length := by omega
  have hs := sh_succ hkn
  have hn := sh_len s k
  intro _; refine ⟨show 0 ≤ (k : Int) ∧ (k : Int) < (s.length : Int) by omega, ?_⟩
  intro _; refine ⟨fun g => ?_, fun g => ?_⟩
  rotate_left
  · have g : (by' s k != 126) = false := g
    have g : by' s k = 126 := by simpa using g
    rw [if_pos g, List.append_nil] at hs
    refine ⟨⟨k + 1, by omega⟩, by simp; omega, th [] 1, rfl, rfl, rfl, rfl, rfl, rfl, ?_, ?_⟩
    · (repeat' first | exact trivial | exact rfl | refine And.intro ?_ ?_)
      · exact (wrap_nat k (by omega)).symm
      · rw [hs]; (repeat' first | exact trivial | exact rfl | refine And.intro ?_ ?_)
    · (repeat' first | exact trivial | exact rfl | refine And.intro ?_ ?_)
      rw [hs]; (repeat' first | exact trivial | exact rfl | refine And.intro ?_ ?_)
  have g : (by' s k != 126) = true := g
  have g : ¬ by' s k = 126 := by simpa using g
  rw [if_neg g] at hs
  intro _; refine ⟨show 0 ≤ (k : Int) ∧ (k : Int) < (s.length : Int) by omega, ?_⟩
  intro _; refine ⟨rfl, ?_⟩
  intro _; refine ⟨fun g3 => by simp at g3, fun _ => ?_⟩
  refine ⟨⟨(nums_len _).symm, show (sh (s.take k)).length + 1 ≤ 4611686018427387904 by omega, show ((sh (s.take k)).length + 1) * 1 ≤ 140737488355328 by omega⟩, ?_⟩
  refine ⟨⟨k + 1, by omega⟩, by simp; omega, th [(0, some 2)] 1, rfl, rfl, rfl, rfl, rfl, rfl, ?_, ?_⟩
  · (repeat' first | exact trivial | exact rfl | refine And.intro ?_ ?_)
    · exact (wrap_nat k (by omega)).symm
    · rw [hs, List.length_append]; (repeat' first | exact trivial | exact rfl | refine And.intro ?_ ?_)
  · (repeat' first | exact trivial | exact rfl | refine And.intro ?_ ?_)
    rw [hs, nums_app]
    rfl
def SQ (s : List UInt8) : V := if VA s then .tup [.str (sh s), .int .i64 0] else .tup [.str [], .int .i64 1]
theorem rShown_ok (s : List UInt8) (hl : s.length ≤ 9223372036854775807) : SemF Try.prog 11 [.str s] ⟨0, 0, []⟩ (fun v _ => v = SQ s ∧ nameless v = true) := by
  refine enter tt_ok Try.func11 (nt := 9) (cd := body Try.f11) rfl rfl rfl rfl ?_
  intro _
  refine call_pure [] (rvalid_ok s hl) rfl rfl rfl ?_ ?_ ?_
  · (repeat' first | exact trivial | exact rfl | refine And.intro ?_ ?_)
  · (repeat' first | exact trivial | exact rfl | refine And.intro ?_ ?_)
  intro v hv _
  subst hv
  intro _; refine ⟨fun g => ?_, fun g => ?_⟩
  · have g : (!decide (VA s)) = true := g
    rw [Bool.not_eq_true'] at g
    have g := of_decide_eq_false g
    intro _
    exact ⟨by unfold SQ; rw [if_neg g], rfl⟩
  have g : (!decide (VA s)) = false := g
  rw [Bool.not_eq_false'] at g
  have hV := of_decide_eq_true g
  intro _
  refine call_pure [] (shown_ok s hV) rfl rfl rfl ?_ ?_ ?_
  · (repeat' first | exact trivial | exact rfl | refine And.intro ?_ ?_)
  · (repeat' first | exact trivial | exact rfl | refine And.intro ?_ ?_)
  intro v hv _
  subst hv
  intro _
  exact ⟨by unfold SQ; rw [if_pos hV], rfl⟩
theorem Shown_ok (s : List UInt8) (hl : s.length ≤ 9223372036854775807) : SemF Try.prog 10 [.str s] ⟨0, 0, []⟩ (fun v _ => v = SQ s ∧ nameless v = true) := by
  refine enter tt_ok Try.func10 (nt := 13) (cd := body Try.f10) rfl rfl rfl rfl ?_
  intro _
  refine call_pure [] (valid_ok s hl) rfl rfl rfl ?_ ?_ ?_
  · (repeat' first | exact trivial | exact rfl | refine And.intro ?_ ?_)
  · (repeat' first | exact trivial | exact rfl | refine And.intro ?_ ?_)
  intro v hv _
  subst hv
  intro _; refine ⟨fun g => ?_, fun g => ?_⟩
  · have g : (!decide (VA s)) = true := g
    rw [Bool.not_eq_true'] at g
    have g := of_decide_eq_false g
    intro _
    exact ⟨by unfold SQ; rw [if_neg g], rfl⟩
  have g : (!decide (VA s)) = false := g
  rw [Bool.not_eq_false'] at g
  have hV := of_decide_eq_true g
  intro _
  refine enter tt_ok Try.func25 (nt := 14) (cd := body Try.f25) rfl rfl rfl rfl ?_
  intro _
  refine loop2 tt_ok [] [0, 1, 2] 3 (fun k : { k : Nat // k ≤ s.length } => []) (fun k => [(0, .cells [.grw 2 (sh (s.take k)).length]), (1, .sit s (k : Nat)), (2, .arr [.int .u8] .grow (.ints (nums (sh (s.take k)))))]) (fun k => s.length - k) ⟨0, by omega⟩ ?_
  intro _
  refine ⟨⟨th [(2, none)] 3, rfl, rfl, rfl, rfl, rfl, rfl, ?_, ?_⟩, ?_⟩
  · (repeat' first | exact trivial | exact rfl | refine And.intro ?_ ?_)
  · (repeat' first | exact trivial | exact rfl | refine And.intro ?_ ?_)
  intro ⟨k, hk⟩
  intro _; refine ⟨fun g => ?_, fun g => ?_⟩
  rotate_left
  · have hkl := of_decide_eq_false (show decide (k < s.length) = false from g)
    have hkl : k = s.length := by omega
    subst hkl
    intro _
    intro _; refine ⟨(nums_len _).symm, ?_⟩
    intro _
    refine ⟨?_, rfl⟩
    show V.tup [V.str ((nums (sh (s.take s.length))).map fun n => UInt8.ofNat n.toNat), .int .i64 0] = _
    rw [nums_back, List.take_length]
    unfold SQ
    rw [if_pos hV]
  have hkl := of_decide_eq_true (show decide (k < s.length) = true from g)
  have hb : by' s k < 128 := by
    rcases Int.lt_or_le (by' s k) 128 with h | h
    · exact h
    · exact absurd (cl_high h) (hV.2 k hkl)
  have er := rune_low hkl hb
  have e1 : ((rune s k).1 : Int) = by' s k := by rw [er]; rfl
  have e2 : (rune s k).2 = 1 := by rw [er]
  have h2 := hV.1
  have hs := sh_succ hkl
  have hn := sh_len s k
  intro _
  refine enter tt_ok Try.func26 (nt := 10) (cd := body Try.f26) rfl rfl rfl rfl ?_
  intro _; refine ⟨fun g => ?_, fun g => ?_⟩
  rotate_left
  · have g : (((rune s k).1 : Int) != 126) = false := g
    rw [e1] at g
    have g : by' s k = 126 := by simpa using g
    rw [if_pos g, List.append_nil] at hs
    intro _
    refine ⟨⟨k + 1, by omega⟩, by simp; omega, th [] 3, rfl, rfl, rfl, rfl, rfl, rfl, ?_, ?_⟩
    · (repeat' first | exact trivial | exact rfl | refine And.intro ?_ ?_)
    · (repeat' first | exact trivial | exact rfl | refine And.intro ?_ ?_)
      · rw [hs]; (repeat' first | exact trivial | exact rfl | refine And.intro ?_ ?_)
      · show k + 1 = k + (rune s k).2
        rw [e2]
      · rw [hs]; (repeat' first | exact trivial | exact rfl | refine And.intro ?_ ?_)
  have g : (((rune s k).1 : Int) != 126) = true := g
  rw [e1] at g
  have g : ¬ by' s k = 126 := by simpa using g
  rw [if_neg g] at hs
  intro _; refine ⟨rfl, ?_⟩
  intro _; refine ⟨fun g3 => by simp at g3, fun _ => ?_⟩
  refine ⟨⟨(nums_len _).symm, show (sh (s.take k)).length + 1 ≤ 4611686018427387904 by omega, show ((sh (s.take k)).length + 1) * 1 ≤ 140737488355328 by omega⟩, ?_⟩
  intro _
  refine ⟨⟨k + 1, by omega⟩, by simp; omega, th [(2, some 4)] 3, rfl, rfl, rfl, rfl, rfl, rfl, ?_, ?_⟩
  · (repeat' first | exact trivial | exact rfl | refine And.intro ?_ ?_)
  · (repeat' first | exact trivial | exact rfl | refine And.intro ?_ ?_)
    · rw [hs, List.length_append]; (repeat' first | exact trivial | exact rfl | refine And.intro ?_ ?_)
    · show k + 1 = k + (rune s k).2
      rw [e2]
    · show nums (sh (s.take (k + 1))) = nums (sh (s.take k)) ++ [IntKind.u8.wrap ((rune s k).1 : Int)]
      have hq : by' s k % 256 = by' s k := by unfold by' at hb ⊢; omega
      rw [hs, nums_app, e1, wrap8, hq]
      rfl
/-! texts one behind the other -/
def wf (c : Int × Bool) (s : List UInt8) : Nat → Int × Bool
  | 0 => c
  | k + 1 => stw (wf c s k) (by' s k)
theorem wk_wf (s : List UInt8) : ∀ k, wk s k = wf (0, false) s k
  | 0 => rfl
  | k + 1 => by simp only [wk, wf]; rw [wk_wf s k]
theorem by_l {a b : List UInt8} {i : Nat} (h : i < a.length) : by' (a ++ b) i = by' a i := by
  unfold by'
  rw [List.getD_eq_getElem?_getD, List.getD_eq_getElem?_getD, List.getElem?_append_left h]
theorem by_r (a b : List UInt8) (j : Nat) : by' (a ++ b) (a.length + j) = by' b j := by
  unfold by'
  rw [List.getD_eq_getElem?_getD, List.getD_eq_getElem?_getD, List.getElem?_append_right (by omega), Nat.add_sub_cancel_left]
theorem wf_l (c : Int × Bool) (a b : List UInt8) : ∀ k, k ≤ a.length → wf c (a ++ b) k = wf c a k
  | 0, _ => rfl
  | k + 1, hk => by
    simp only [wf]
    rw [wf_l c a b k (by omega), by_l (by omega)]
theorem wf_app (c : Int × Bool) (a b : List UInt8) : ∀ j, wf c (a ++ b) (a.length + j) = wf (wf c a a.length) b j
  | 0 => wf_l c a b a.length (Nat.le_refl _)
  | j + 1 => by
    show stw (wf c (a ++ b) (a.length + j)) (by' (a ++ b) (a.length + j)) = stw (wf (wf c a a.length) b j) (by' b j)
    rw [wf_app c a b j, by_r]
theorem stw_shift (n d : Int) (i : Bool) (x : Int) : stw (n + d, i) x = ((stw (n, i) x).1 + d, (stw (n, i) x).2) := by
  unfold stw
  simp only []
  split
  · rfl
  · split
    · simp only [Prod.mk.injEq, and_true]; omega
    · rfl
theorem wf_shift (d : Int) (i : Bool) (s : List UInt8) : ∀ k, wf (0 + d, i) s k = ((wf (0, i) s k).1 + d, (wf (0, i) s k).2)
  | 0 => rfl
  | k + 1 => by
    simp only [wf]
    rw [wf_shift d i s k, stw_shift]
theorem wf_two (s : List UInt8) : ∀ k, wf (0, false) s k = wf (0, true) s k ∨ ((wf (0, false) s k).1 = (wf (0, true) s k).1 ∧ (wf (0, false) s k).2 = false ∧ (wf (0, true) s k).2 = true) ∨ ((wf (0, false) s k).1 = (wf (0, true) s k).1 + 1 ∧ (wf (0, false) s k).2 = (wf (0, true) s k).2)
  | 0 => .inr (.inl ⟨rfl, rfl, rfl⟩)
  | k + 1 => by
    simp only [wf]
    have ih := wf_two s k
    generalize wf (0, false) s k = f at *
    generalize wf (0, true) s k = t at *
    generalize by' s k = x
    obtain ⟨f1, f2⟩ := f
    obtain ⟨t1, t2⟩ := t
    simp only [Prod.mk.injEq] at ih
    unfold stw
    by_cases e1 : x = 32
    · rw [if_pos e1, if_pos e1]
      rcases ih with ⟨h, _⟩ | ⟨h, _, _⟩ | ⟨h, _⟩
      · exact .inl (by rw [h])
      · exact .inl (by rw [show f1 = t1 from h])
      · exact .inr (.inr ⟨h, rfl⟩)
    · rw [if_neg e1, if_neg e1]
      by_cases e2 : x = 126
      · rw [if_neg (fun h => h.1 e2), if_neg (fun h => h.1 e2)]
        simp only [Prod.mk.injEq]
        exact ih
      · cases f2 <;> cases t2 <;> simp [e2] at ih ⊢ <;> omega
theorem wf_pos (s : List UInt8) : ∀ k, 0 ≤ (wf (0, true) s k).1 ∧ 0 ≤ (wf (0, false) s k).1 ∧ ((wf (0, false) s k).2 = true → 1 ≤ (wf (0, false) s k).1)
  | 0 => by simp [wf]
  | k + 1 => by
    have ih := wf_pos s k
    simp only [wf]
    generalize wf (0, false) s k = f at *
    generalize wf (0, true) s k = t at *
    generalize by' s k = x
    obtain ⟨f1, f2⟩ := f
    obtain ⟨t1, t2⟩ := t
    simp only [] at ih
    unfold stw
    by_cases e1 : x = 32
    · simp only [if_pos e1]
      exact ⟨ih.1, ih.2.1, fun h => by cases h⟩
    · simp only [if_neg e1]
      by_cases e2 : x = 126
      · rw [if_neg (fun h => h.1 e2), if_neg (fun h => h.1 e2)]
        exact ih
      · cases f2 <;> cases t2 <;> simp [e2] at ih ⊢ <;> omega
def wc (s : List UInt8) : Int := (wk s s.length).1
theorem wc_blank (a b : List UInt8) : wc ((a ++ [32]) ++ b) = wc a + wc b := by
  unfold wc
  rw [wk_wf, wk_wf, wk_wf, List.length_append, wf_app, show (a ++ ([32] : List UInt8)).length = a.length + 1 by simp, wf_app]
  have e : wf (wf (0, false) a a.length) [32] 1 = ((wf (0, false) a a.length).1, false) := rfl
  rw [e]
  have := wf_shift (wf (0, false) a a.length).1 false b b.length
  rw [Int.zero_add] at this
  rw [this]
  simp only []
  omega
theorem wc_join (a b : List UInt8) : wc (a ++ b) = wc a + wc b ∨ (wc (a ++ b) = wc a + wc b - 1 ∧ wc a > 0 ∧ wc b > 0) := by
  unfold wc
  rw [wk_wf, wk_wf, wk_wf, List.length_append, wf_app]
  have pa := wf_pos a a.length
  have pb := wf_pos b b.length
  have tw := wf_two b b.length
  generalize wf (0, false) a a.length = s at *
  obtain ⟨n, i⟩ := s
  have sh := wf_shift n i b b.length
  rw [Int.zero_add] at sh
  rw [sh]
  simp only []
  cases i with
  | false => left; omega
  | true =>
    have hn := pa.2.2 rfl
    simp only [] at hn
    rcases tw with h | ⟨h, _, _⟩ | ⟨h, _⟩
    · left; rw [h]; omega
    · left; omega
    · right; omega
theorem va_app {a b : List UInt8} (ha : VA a) (hb : VA b) (h : a.length + b.length ≤ 2000) : VA (a ++ b) := by
  refine ⟨by rw [List.length_append]; exact h, fun i hi => ?_⟩
  rw [List.length_append] at hi
  rcases Nat.lt_or_ge i a.length with e | e
  · rw [by_l e]; exact ha.2 i e
  · have : i = a.length + (i - a.length) := by omega
    rw [this, by_r]
    exact hb.2 _ (by omega)
theorem va_blank : VA [32] := by decide
theorem words_va (s : List UInt8) (hV : VA s) : SemF Try.prog 16 [.str s] ⟨0, 0, []⟩ (fun v _ => v = .tup [.int .i64 (wc s), .int .i64 0] ∧ nameless v = true) :=
  (words_ok s (by have := hV.1; omega)).mono fun v _ h => ⟨by rw [h.1]; unfold WQ; rw [if_pos hV]; rfl, h.2⟩
/-! the reference's words -/
def cn (t : List UInt8) : Nat → Int
  | 0 => 0
  | k + 1 => cn t k + (if by' t k ≠ 32 ∧ (k = 0 ∨ by' t (k - 1) = 32) then 1 else 0)
def inn (t : List UInt8) (k : Nat) : Bool := decide (0 < k ∧ by' t (k - 1) ≠ 32)
theorem cn_wk {t : List UInt8} (h : ∀ i, i < t.length → by' t i ≠ 126) : ∀ k, k ≤ t.length → wk t k = (cn t k, inn t k)
  | 0, _ => rfl
  | k + 1, hk => by
    simp only [wk]
    rw [cn_wk h k (by omega)]
    have h6 := h k (by omega)
    have ei : inn t (k + 1) = decide (by' t k ≠ 32) := by
      unfold inn
      rw [Nat.add_sub_cancel]
      exact decide_eq_decide.2 ⟨fun h => h.2, fun h => ⟨by omega, h⟩⟩
    rw [ei]
    unfold stw
    simp only [cn]
    by_cases e : by' t k = 32
    · rw [if_pos e, if_neg (fun h => h.1 e), decide_eq_false (fun h => h e), Int.add_zero]
    · rw [if_neg e, decide_eq_true e]
      by_cases q : k = 0 ∨ by' t (k - 1) = 32
      · have : inn t k = false := decide_eq_false (fun h => by
          rcases q with q | q
          · omega
          · exact h.2 q)
        rw [this, if_pos ⟨h6, rfl⟩, if_pos ⟨e, q⟩]
      · have : inn t k = true := decide_eq_true ⟨by
          rcases Nat.eq_zero_or_pos k with z | z
          · exact absurd (.inl z) q
          · exact z, fun z => q (.inr z)⟩
        rw [this, if_neg (fun h => by cases h.2), if_neg (fun h => q h.2), Int.add_zero]
theorem cn_bd (t : List UInt8) : ∀ k, 0 ≤ cn t k ∧ cn t k ≤ k
  | 0 => by simp [cn]
  | k + 1 => by
    have := cn_bd t k
    simp only [cn]
    split <;> omega
theorem sh_no (s : List UInt8) : ∀ i, i < (sh s).length → by' (sh s) i ≠ 126 := fun i hi h => by
  have hm : (sh s)[i] ∈ sh s := List.getElem_mem hi
  have := (List.mem_filter.1 hm).2
  unfold by' at h
  rw [List.getD_eq_getElem?_getD, List.getElem?_eq_getElem hi] at h
  simp only [Option.getD_some] at h
  have e : (sh s)[i] = 126 := UInt8.toNat_inj.1 (by have : (sh s)[i].toNat = 126 := by omega
                                                    rw [this]; rfl)
  rw [e] at this
  exact absurd this (by decide)
theorem wk_snoc (u : List UInt8) (x : UInt8) : wk (u ++ [x]) (u.length + 1) = stw (wk u u.length) (x.toNat : Int) := by
  rw [wk_wf, wk_wf, wf_app]
  rfl
theorem wk_sh (s : List UInt8) : ∀ k, k ≤ s.length → wk s k = wk (sh (s.take k)) (sh (s.take k)).length
  | 0, _ => rfl
  | k + 1, hk => by
    have e := sh_succ (s := s) (k := k) (by omega)
    have ih := wk_sh s k (by omega)
    show stw (wk s k) (by' s k) = _
    by_cases q : by' s k = 126
    · rw [if_pos q, List.append_nil] at e
      rw [e, ← ih, q]
      unfold stw
      rw [if_neg (by decide), if_neg (fun h => h.1 rfl)]
    · rw [if_neg q] at e
      rw [e, List.length_append, ih]
      exact (wk_snoc _ _).symm
theorem cn_sh (s : List UInt8) : cn (sh s) (sh s).length = wc s := by
  unfold wc
  have e := wk_sh s s.length (Nat.le_refl _)
  rw [List.take_length] at e
  rw [e, cn_wk (sh_no s) _ (Nat.le_refl _)]
theorem rwords_ok (s : List UInt8) (hl : s.length ≤ 9223372036854775807) : SemF Try.prog 17 [.str s] ⟨0, 0, []⟩ (fun v _ => v = WQ s ∧ nameless v = true) := by
  refine enter tt_ok Try.func17 (nt := 36) (cd := body Try.f17) rfl rfl rfl rfl ?_
  intro _
  refine call_pure [] (rvalid_ok s hl) rfl rfl rfl ?_ ?_ ?_
  · (repeat' first | exact trivial | exact rfl | refine And.intro ?_ ?_)
  · (repeat' first | exact trivial | exact rfl | refine And.intro ?_ ?_)
  intro v hv _
  subst hv
  intro _; refine ⟨fun g => ?_, fun g => ?_⟩
  · have g : (!decide (VA s)) = true := g
    rw [Bool.not_eq_true'] at g
    have g := of_decide_eq_false g
    intro _
    exact ⟨by unfold WQ; rw [if_neg g], rfl⟩
  have g : (!decide (VA s)) = false := g
  rw [Bool.not_eq_false'] at g
  have hV := of_decide_eq_true g
  intro _
  refine call_pure [] (shown_ok s hV) rfl rfl rfl ?_ ?_ ?_
  · (repeat' first | exact trivial | exact rfl | refine And.intro ?_ ?_)
  · (repeat' first | exact trivial | exact rfl | refine And.intro ?_ ?_)
  intro v hv _
  subst hv
  have hn : (sh s).length ≤ 2000 := by
    have := sh_len s s.length
    rw [List.take_length] at this
    have := hV.1
    omega
  intro _
  refine loop2 tt_ok [6, 5] [] 0 (fun k : { k : Nat // k ≤ (sh s).length } => [(6, .int .i64 (k : Nat)), (5, .int .i64 (cn (sh s) k))]) (fun _ => []) (fun k => (sh s).length - k) ⟨0, by omega⟩ ?_
  intro _
  refine ⟨⟨th [] 0, rfl, rfl, rfl, rfl, rfl, rfl, ?_, ?_⟩, ?_⟩
  · (repeat' first | exact trivial | exact rfl | refine And.intro ?_ ?_)
  · (repeat' first | exact trivial | exact rfl | refine And.intro ?_ ?_)
  intro ⟨k, hk⟩
  have cb := cn_bd (sh s) k
  intro _; refine ⟨fun g => ?_, fun g => ?_⟩
  rotate_left
  · have hkl := of_decide_eq_false (show decide ((k : Int) < ((sh s).length : Int)) = false from g)
    have hkl : k = (sh s).length := by omega
    subst hkl
    intro _
    refine ⟨?_, rfl⟩
    show V.tup [.int .i64 (cn (sh s) (sh s).length), .int .i64 0] = _
    rw [cn_sh]
    unfold WQ
    rw [if_pos hV]
    rfl
  have hkl := of_decide_eq_true (show decide ((k : Int) < ((sh s).length : Int)) = true from g)
  intro _; refine ⟨show 0 ≤ (k : Int) ∧ (k : Int) < ((sh s).length : Int) by omega, ?_⟩
  intro _; refine ⟨fun g => ?_, fun g => ?_⟩
  rotate_left
  · have g : (by' (sh s) k != 32) = false := g
    have g : by' (sh s) k = 32 := by simpa using g
    refine ⟨⟨k + 1, by omega⟩, by simp; omega, th [] 0, rfl, rfl, rfl, rfl, rfl, rfl, ?_, ?_⟩
    · (repeat' first | exact trivial | exact rfl | refine And.intro ?_ ?_)
      · exact (wrap_nat k (by omega)).symm
      · show cn (sh s) k + (if by' (sh s) k ≠ 32 ∧ (k = 0 ∨ by' (sh s) (k - 1) = 32) then 1 else 0) = cn (sh s) k
        rw [if_neg (fun h => h.1 g), Int.add_zero]
    · (repeat' first | exact trivial | exact rfl | refine And.intro ?_ ?_)
  have g : (by' (sh s) k != 32) = true := g
  have g32 : by' (sh s) k ≠ 32 := by simpa using g
  intro _; refine ⟨fun g => ?_, fun g => ?_⟩
  · have g : ((k : Int) == 0) = true := g
    have g : (k : Int) = 0 := by simpa using g
    have g0 : k = 0 := by omega
    refine ⟨⟨k + 1, by omega⟩, by simp; omega, th [] 0, rfl, rfl, rfl, rfl, rfl, rfl, ?_, ?_⟩
    · (repeat' first | exact trivial | exact rfl | refine And.intro ?_ ?_)
      · exact (wrap_nat k (by omega)).symm
      · show cn (sh s) k + (if by' (sh s) k ≠ 32 ∧ (k = 0 ∨ by' (sh s) (k - 1) = 32) then 1 else 0) = IntKind.i64.wrap (cn (sh s) k + 1)
        rw [if_pos ⟨g32, .inl g0⟩, wrapS _ ⟨by omega, by omega⟩]
    · (repeat' first | exact trivial | exact rfl | refine And.intro ?_ ?_)
  have g : ((k : Int) == 0) = false := g
  have g : ¬ (k : Int) = 0 := by simpa using g
  have eW : IntKind.i64.wrap ((k : Int) - 1) = ((k - 1 : Nat) : Int) := by rw [wrapS _ ⟨by omega, by omega⟩]; omega
  intro _; refine ⟨show 0 ≤ IntKind.i64.wrap ((k : Int) - 1) ∧ IntKind.i64.wrap ((k : Int) - 1) < ((sh s).length : Int) by rw [eW]; omega, ?_⟩
  intro _; refine ⟨fun g => ?_, fun g => ?_⟩
  · have g2 : (by' (sh s) (IntKind.i64.wrap ((k : Int) - 1)).toNat == 32) = true := g
    rw [eW] at g2
    have g2 : by' (sh s) (k - 1) = 32 := by simpa using g2
    refine ⟨⟨k + 1, by omega⟩, by simp; omega, th [] 0, rfl, rfl, rfl, rfl, rfl, rfl, ?_, ?_⟩
    · (repeat' first | exact trivial | exact rfl | refine And.intro ?_ ?_)
      · exact (wrap_nat k (by omega)).symm
      · show cn (sh s) k + (if by' (sh s) k ≠ 32 ∧ (k = 0 ∨ by' (sh s) (k - 1) = 32) then 1 else 0) = IntKind.i64.wrap (cn (sh s) k + 1)
        rw [if_pos ⟨g32, .inr g2⟩, wrapS _ ⟨by omega, by omega⟩]
    · (repeat' first | exact trivial | exact rfl | refine And.intro ?_ ?_)
  · have g2 : (by' (sh s) (IntKind.i64.wrap ((k : Int) - 1)).toNat == 32) = false := g
    rw [eW] at g2
    have g2 : ¬ by' (sh s) (k - 1) = 32 := by simpa using g2
    refine ⟨⟨k + 1, by omega⟩, by simp; omega, th [] 0, rfl, rfl, rfl, rfl, rfl, rfl, ?_, ?_⟩
    · (repeat' first | exact trivial | exact rfl | refine And.intro ?_ ?_)
      · exact (wrap_nat k (by omega)).symm
      · show cn (sh s) k + (if by' (sh s) k ≠ 32 ∧ (k = 0 ∨ by' (sh s) (k - 1) = 32) then 1 else 0) = cn (sh s) k
        rw [if_neg (fun h => h.2.elim (fun z => by omega) g2), Int.add_zero]
    · (repeat' first | exact trivial | exact rfl | refine And.intro ?_ ?_)
/-! trimmed -/
def trL : Nat → List UInt8 → List UInt8
  | 0, l => l
  | n + 1, l => if 0 < l.length ∧ by' l 0 = 32 then trL n (l.drop 1) else l
def trR : Nat → List UInt8 → List UInt8
  | 0, l => l
  | n + 1, l => if 0 < l.length ∧ by' l (l.length - 1) = 32 then trR n (l.take (l.length - 1)) else l
def tr (s : List UInt8) : List UInt8 := trR 2000 (trL 2000 s)
theorem trL_le : ∀ (n : Nat) (l : List UInt8), (trL n l).length ≤ l.length
  | 0, l => Nat.le_refl _
  | n + 1, l => by
    simp only [trL]
    split
    · exact Nat.le_trans (trL_le n _) (by simp)
    · exact Nat.le_refl _
def TQ (s : List UInt8) : V := if VA s then .tup [.str (tr s), .int .i64 0] else .tup [.str [], .int .i64 1]
theorem cut_lo (l : List UInt8) : (l.drop (1 : Int).toNat).take (((l.length : Int)).toNat - (1 : Int).toNat) = l.drop 1 := by
  rw [List.take_of_length_le]
  · rfl
  · simp
theorem cut_hi (l : List UInt8) (n : Int) : (l.drop (0 : Int).toNat).take (n.toNat - (0 : Int).toNat) = l.take n.toNat := by
  simp
theorem Trim_ok (s : List UInt8) (hl : s.length ≤ 9223372036854775807) : SemF Try.prog 18 [.str s] ⟨0, 0, []⟩ (fun v _ => v = TQ s ∧ nameless v = true) := by
  refine enter tt_ok Try.func18 (nt := 34) (cd := body Try.f18) rfl rfl rfl rfl ?_
  intro _
  refine call_pure [] (valid_ok s hl) rfl rfl rfl ?_ ?_ ?_
  · (repeat' first | exact trivial | exact rfl | refine And.intro ?_ ?_)
  · (repeat' first | exact trivial | exact rfl | refine And.intro ?_ ?_)
  intro v hv _
  subst hv
  intro _; refine ⟨fun g => ?_, fun g => ?_⟩
  · have g : (!decide (VA s)) = true := g
    rw [Bool.not_eq_true'] at g
    have g := of_decide_eq_false g
    intro _
    exact ⟨by unfold TQ; rw [if_neg g], rfl⟩
  have g : (!decide (VA s)) = false := g
  rw [Bool.not_eq_false'] at g
  have hV := of_decide_eq_true g
  intro _
  refine loop2 tt_ok [0] [] 0 (fun k : { p : Nat × List UInt8 // p.2.length ≤ p.1 ∧ p.1 ≤ 2000 ∧ trL p.1 p.2 = trL 2000 s } => [(0, .str k.1.2)]) (fun _ => []) (fun k => k.1.1) ⟨(2000, s), hV.1, Nat.le_refl _, rfl⟩ ?_
  intro _
  refine ⟨⟨th [] 0, rfl, rfl, rfl, rfl, rfl, rfl, ?_, ?_⟩, ?_⟩
  · (repeat' first | exact trivial | exact rfl | refine And.intro ?_ ?_)
  · (repeat' first | exact trivial | exact rfl | refine And.intro ?_ ?_)
  intro ⟨⟨n, l⟩, hn, h2, ht⟩
  simp only [] at hn h2 ht
  have done1 : ¬ (0 < l.length ∧ by' l 0 = 32) → l = trL 2000 s := fun h => by
    rw [← ht]
    cases n with
    | zero => rfl
    | succ n => simp only [trL]; rw [if_neg h]
  intro _; refine ⟨fun g => ?_, fun g => ?_⟩
  rotate_left
  · have g := of_decide_eq_false (show decide ((l.length : Int) > 0) = false from g)
    have hd := done1 (fun h => by omega)
    intro _
    refine loop2 tt_ok [0] [] 0 (fun k : { p : Nat × List UInt8 // p.2.length ≤ p.1 ∧ p.1 ≤ 2000 ∧ trR p.1 p.2 = tr s } => [(0, .str k.1.2)]) (fun _ => []) (fun k => k.1.1) ⟨(2000, l), by have := trL_le 2000 s; rw [← hd] at this; have := hV.1; simp only []; omega, Nat.le_refl _, by rw [hd]; rfl⟩ ?_
    intro _
    refine ⟨⟨th [] 0, rfl, rfl, rfl, rfl, rfl, rfl, ?_, ?_⟩, ?_⟩
    · (repeat' first | exact trivial | exact rfl | refine And.intro ?_ ?_)
    · (repeat' first | exact trivial | exact rfl | refine And.intro ?_ ?_)
    intro ⟨⟨n, l⟩, hn, h2, ht⟩
    simp only [] at hn h2 ht
    have done2 : ¬ (0 < l.length ∧ by' l (l.length - 1) = 32) → TQ s = .tup [.str l, .int .i64 0] := fun h => by
      unfold TQ
      rw [if_pos hV, ← ht]
      cases n with
      | zero => rfl
      | succ n => simp only [trR]; rw [if_neg h]
    intro _; refine ⟨fun g => ?_, fun g => ?_⟩
    rotate_left
    · have g := of_decide_eq_false (show decide ((l.length : Int) > 0) = false from g)
      intro _
      exact ⟨(done2 (fun h => by omega)).symm, rfl⟩
    have g1 := of_decide_eq_true (show decide ((l.length : Int) > 0) = true from g)
    have eW : IntKind.i64.wrap ((l.length : Int) - 1) = ((l.length - 1 : Nat) : Int) := by rw [wrapS _ ⟨by omega, by have := hV.1; omega⟩]; omega
    intro _; refine ⟨show 0 ≤ IntKind.i64.wrap ((l.length : Int) - 1) ∧ IntKind.i64.wrap ((l.length : Int) - 1) < (l.length : Int) by rw [eW]; omega, ?_⟩
    intro _; refine ⟨fun g => ?_, fun g => ?_⟩
    rotate_left
    · have g : (by' l (IntKind.i64.wrap ((l.length : Int) - 1)).toNat == 32) = false := g
      rw [eW] at g
      have g : ¬ by' l (l.length - 1) = 32 := by simpa using g
      intro _
      exact ⟨(done2 (fun h => g h.2)).symm, rfl⟩
    have g : (by' l (IntKind.i64.wrap ((l.length : Int) - 1)).toNat == 32) = true := g
    rw [eW] at g
    have gz : by' l (l.length - 1) = 32 := by simpa using g
    intro _; refine ⟨show 0 ≤ (0 : Int) ∧ (0 : Int) ≤ IntKind.i64.wrap ((l.length : Int) - 1) ∧ IntKind.i64.wrap ((l.length : Int) - 1) ≤ (l.length : Int) by rw [eW]; omega, ?_⟩
    cases n with
    | zero => omega
    | succ n =>
      refine ⟨⟨(n, l.take (l.length - 1)), by simp; omega, by omega, ?_⟩, by simp, th [] 0, rfl, rfl, rfl, rfl, rfl, rfl, ?_, ?_⟩
      · rw [← ht]
        simp only [trR]
        rw [if_pos ⟨by omega, gz⟩]
      · (repeat' first | exact trivial | exact rfl | refine And.intro ?_ ?_)
        show l.take (l.length - 1) = (l.drop (0 : Int).toNat).take ((IntKind.i64.wrap ((l.length : Int) - 1)).toNat - (0 : Int).toNat)
        rw [cut_hi, eW]
        rfl
      · (repeat' first | exact trivial | exact rfl | refine And.intro ?_ ?_)
  have g1 := of_decide_eq_true (show decide ((l.length : Int) > 0) = true from g)
  intro _; refine ⟨show 0 ≤ (0 : Int) ∧ (0 : Int) < (l.length : Int) by omega, ?_⟩
  intro _; refine ⟨fun g => ?_, fun g => ?_⟩
  rotate_left
  · have g : (by' l 0 == 32) = false := g
    have g : ¬ by' l 0 = 32 := by simpa using g
    have hd := done1 (fun h => g h.2)
    intro _
    refine loop2 tt_ok [0] [] 0 (fun k : { p : Nat × List UInt8 // p.2.length ≤ p.1 ∧ p.1 ≤ 2000 ∧ trR p.1 p.2 = tr s } => [(0, .str k.1.2)]) (fun _ => []) (fun k => k.1.1) ⟨(2000, l), by have := trL_le 2000 s; rw [← hd] at this; have := hV.1; simp only []; omega, Nat.le_refl _, by rw [hd]; rfl⟩ ?_
    intro _
    refine ⟨⟨th [] 0, rfl, rfl, rfl, rfl, rfl, rfl, ?_, ?_⟩, ?_⟩
    · (repeat' first | exact trivial | exact rfl | refine And.intro ?_ ?_)
    · (repeat' first | exact trivial | exact rfl | refine And.intro ?_ ?_)
    intro ⟨⟨n, l⟩, hn, h2, ht⟩
    simp only [] at hn h2 ht
    have done2 : ¬ (0 < l.length ∧ by' l (l.length - 1) = 32) → TQ s = .tup [.str l, .int .i64 0] := fun h => by
      unfold TQ
      rw [if_pos hV, ← ht]
      cases n with
      | zero => rfl
      | succ n => simp only [trR]; rw [if_neg h]
    intro _; refine ⟨fun g => ?_, fun g => ?_⟩
    rotate_left
    · have g := of_decide_eq_false (show decide ((l.length : Int) > 0) = false from g)
      intro _
      exact ⟨(done2 (fun h => by omega)).symm, rfl⟩
    have g1 := of_decide_eq_true (show decide ((l.length : Int) > 0) = true from g)
    have eW : IntKind.i64.wrap ((l.length : Int) - 1) = ((l.length - 1 : Nat) : Int) := by rw [wrapS _ ⟨by omega, by have := hV.1; omega⟩]; omega
    intro _; refine ⟨show 0 ≤ IntKind.i64.wrap ((l.length : Int) - 1) ∧ IntKind.i64.wrap ((l.length : Int) - 1) < (l.length : Int) by rw [eW]; omega, ?_⟩
    intro _; refine ⟨fun g => ?_, fun g => ?_⟩
    rotate_left
    · have g : (by' l (IntKind.i64.wrap ((l.length : Int) - 1)).toNat == 32) = false := g
      rw [eW] at g
      have g : ¬ by' l (l.length - 1) = 32 := by simpa using g
      intro _
      exact ⟨(done2 (fun h => g h.2)).symm, rfl⟩
    have g : (by' l (IntKind.i64.wrap ((l.length : Int) - 1)).toNat == 32) = true := g
    rw [eW] at g
    have gz : by' l (l.length - 1) = 32 := by simpa using g
    intro _; refine ⟨show 0 ≤ (0 : Int) ∧ (0 : Int) ≤ IntKind.i64.wrap ((l.length : Int) - 1) ∧ IntKind.i64.wrap ((l.length : Int) - 1) ≤ (l.length : Int) by rw [eW]; omega, ?_⟩
    cases n with
    | zero => omega
    | succ n =>
      refine ⟨⟨(n, l.take (l.length - 1)), by simp; omega, by omega, ?_⟩, by simp, th [] 0, rfl, rfl, rfl, rfl, rfl, rfl, ?_, ?_⟩
      · rw [← ht]
        simp only [trR]
        rw [if_pos ⟨by omega, gz⟩]
      · (repeat' first | exact trivial | exact rfl | refine And.intro ?_ ?_)
        show l.take (l.length - 1) = (l.drop (0 : Int).toNat).take ((IntKind.i64.wrap ((l.length : Int) - 1)).toNat - (0 : Int).toNat)
        rw [cut_hi, eW]
        rfl
      · (repeat' first | exact trivial | exact rfl | refine And.intro ?_ ?_)
  have g : (by' l 0 == 32) = true := g
  have gz : by' l 0 = 32 := by simpa using g
  intro _; refine ⟨show 0 ≤ (1 : Int) ∧ (1 : Int) ≤ (l.length : Int) ∧ (l.length : Int) ≤ (l.length : Int) by omega, ?_⟩
  cases n with
  | zero => omega
  | succ n =>
    refine ⟨⟨(n, l.drop 1), by simp; omega, by omega, ?_⟩, by simp, th [] 0, rfl, rfl, rfl, rfl, rfl, rfl, ?_, ?_⟩
    · rw [← ht]
      simp only [trL]
      rw [if_pos ⟨by omega, gz⟩]
    · (repeat' first | exact trivial | exact rfl | refine And.intro ?_ ?_)
      exact (cut_lo l).symm
    · (repeat' first | exact trivial | exact rfl | refine And.intro ?_ ?_)
theorem rTrim_ok (s : List UInt8) (hl : s.length ≤ 9223372036854775807) : SemF Try.prog 19 [.str s] ⟨0, 0, []⟩ (fun v _ => v = TQ s ∧ nameless v = true) := by
  refine enter tt_ok Try.func19 (nt := 34) (cd := body Try.f19) rfl rfl rfl rfl ?_
  intro _
  refine call_pure [] (rvalid_ok s hl) rfl rfl rfl ?_ ?_ ?_
  · (repeat' first | exact trivial | exact rfl | refine And.intro ?_ ?_)
  · (repeat' first | exact trivial | exact rfl | refine And.intro ?_ ?_)
  intro v hv _
  subst hv
  intro _; refine ⟨fun g => ?_, fun g => ?_⟩
  · have g : (!decide (VA s)) = true := g
    rw [Bool.not_eq_true'] at g
    have g := of_decide_eq_false g
    intro _
    exact ⟨by unfold TQ; rw [if_neg g], rfl⟩
  have g : (!decide (VA s)) = false := g
  rw [Bool.not_eq_false'] at g
  have hV := of_decide_eq_true g
  intro _
  refine loop2 tt_ok [0] [] 0 (fun k : { p : Nat × List UInt8 // p.2.length ≤ p.1 ∧ p.1 ≤ 2000 ∧ trL p.1 p.2 = trL 2000 s } => [(0, .str k.1.2)]) (fun _ => []) (fun k => k.1.1) ⟨(2000, s), hV.1, Nat.le_refl _, rfl⟩ ?_
  intro _
  refine ⟨⟨th [] 0, rfl, rfl, rfl, rfl, rfl, rfl, ?_, ?_⟩, ?_⟩
  · (repeat' first | exact trivial | exact rfl | refine And.intro ?_ ?_)
  · (repeat' first | exact trivial | exact rfl | refine And.intro ?_ ?_)
  intro ⟨⟨n, l⟩, hn, h2, ht⟩
  simp only [] at hn h2 ht
  have done1 : ¬ (0 < l.length ∧ by' l 0 = 32) → l = trL 2000 s := fun h => by
    rw [← ht]
    cases n with
    | zero => rfl
    | succ n => simp only [trL]; rw [if_neg h]
  intro _; refine ⟨fun g => ?_, fun g => ?_⟩
  rotate_left
  · have g := of_decide_eq_false (show decide ((l.length : Int) > 0) = false from g)
    have hd := done1 (fun h => by omega)
    intro _
    refine loop2 tt_ok [0] [] 0 (fun k : { p : Nat × List UInt8 // p.2.length ≤ p.1 ∧ p.1 ≤ 2000 ∧ trR p.1 p.2 = tr s } => [(0, .str k.1.2)]) (fun _ => []) (fun k => k.1.1) ⟨(2000, l), by have := trL_le 2000 s; rw [← hd] at this; have := hV.1; simp only []; omega, Nat.le_refl _, by rw [hd]; rfl⟩ ?_
    intro _
    refine ⟨⟨th [] 0, rfl, rfl, rfl, rfl, rfl, rfl, ?_, ?_⟩, ?_⟩
    · (repeat' first | exact trivial | exact rfl | refine And.intro ?_ ?_)
    · (repeat' first | exact trivial | exact rfl | refine And.intro ?_ ?_)
    intro ⟨⟨n, l⟩, hn, h2, ht⟩
    simp only [] at hn h2 ht
    have done2 : ¬ (0 < l.length ∧ by' l (l.length - 1) = 32) → TQ s = .tup [.str l, .int .i64 0] := fun h => by
      unfold TQ
      rw [if_pos hV, ← ht]
      cases n with
      | zero => rfl
      | succ n => simp only [trR]; rw [if_neg h]
    intro _; refine ⟨fun g => ?_, fun g => ?_⟩
    rotate_left
    · have g := of_decide_eq_false (show decide ((l.length : Int) > 0) = false from g)
      intro _
      exact ⟨(done2 (fun h => by omega)).symm, rfl⟩
    have g1 := of_decide_eq_true (show decide ((l.length : Int) > 0) = true from g)
    have eW : IntKind.i64.wrap ((l.length : Int) - 1) = ((l.length - 1 : Nat) : Int) := by rw [wrapS _ ⟨by omega, by have := hV.1; omega⟩]; omega
    intro _; refine ⟨show 0 ≤ IntKind.i64.wrap ((l.length : Int) - 1) ∧ IntKind.i64.wrap ((l.length : Int) - 1) < (l.length : Int) by rw [eW]; omega, ?_⟩
    intro _; refine ⟨fun g => ?_, fun g => ?_⟩
    rotate_left
    · have g : (by' l (IntKind.i64.wrap ((l.length : Int) - 1)).toNat == 32) = false := g
      rw [eW] at g
      have g : ¬ by' l (l.length - 1) = 32 := by simpa using g
      intro _
      exact ⟨(done2 (fun h => g h.2)).symm, rfl⟩
    have g : (by' l (IntKind.i64.wrap ((l.length : Int) - 1)).toNat == 32) = true := g
    rw [eW] at g
    have gz : by' l (l.length - 1) = 32 := by simpa using g
    intro _; refine ⟨show 0 ≤ (0 : Int) ∧ (0 : Int) ≤ IntKind.i64.wrap ((l.length : Int) - 1) ∧ IntKind.i64.wrap ((l.length : Int) - 1) ≤ (l.length : Int) by rw [eW]; omega, ?_⟩
    cases n with
    | zero => omega
    | succ n =>
      refine ⟨⟨(n, l.take (l.length - 1)), by simp; omega, by omega, ?_⟩, by simp, th [] 0, rfl, rfl, rfl, rfl, rfl, rfl, ?_, ?_⟩
      · rw [← ht]
        simp only [trR]
        rw [if_pos ⟨by omega, gz⟩]
      · (repeat' first | exact trivial | exact rfl | refine And.intro ?_ ?_)
        show l.take (l.length - 1) = (l.drop (0 : Int).toNat).take ((IntKind.i64.wrap ((l.length : Int) - 1)).toNat - (0 : Int).toNat)
        rw [cut_hi, eW]
        rfl
      · (repeat' first | exact trivial | exact rfl | refine And.intro ?_ ?_)
  have g1 := of_decide_eq_true (show decide ((l.length : Int) > 0) = true from g)
  intro _; refine ⟨show 0 ≤ (0 : Int) ∧ (0 : Int) < (l.length : Int) by omega, ?_⟩
  intro _; refine ⟨fun g => ?_, fun g => ?_⟩
  rotate_left
  · have g : (by' l 0 == 32) = false := g
    have g : ¬ by' l 0 = 32 := by simpa using g
    have hd := done1 (fun h => g h.2)
    intro _
    refine loop2 tt_ok [0] [] 0 (fun k : { p : Nat × List UInt8 // p.2.length ≤ p.1 ∧ p.1 ≤ 2000 ∧ trR p.1 p.2 = tr s } => [(0, .str k.1.2)]) (fun _ => []) (fun k => k.1.1) ⟨(2000, l), by have := trL_le 2000 s; rw [← hd] at this; have := hV.1; simp only []; omega, Nat.le_refl _, by rw [hd]; rfl⟩ ?_
    intro _
    refine ⟨⟨th [] 0, rfl, rfl, rfl, rfl, rfl, rfl, ?_, ?_⟩, ?_⟩
    · (repeat' first | exact trivial | exact rfl | refine And.intro ?_ ?_)
    · (repeat' first | exact trivial | exact rfl | refine And.intro ?_ ?_)
    intro ⟨⟨n, l⟩, hn, h2, ht⟩
    simp only [] at hn h2 ht
    have done2 : ¬ (0 < l.length ∧ by' l (l.length - 1) = 32) → TQ s = .tup [.str l, .int .i64 0] := fun h => by
      unfold TQ
      rw [if_pos hV, ← ht]
      cases n with
      | zero => rfl
      | succ n => simp only [trR]; rw [if_neg h]
    intro _; refine ⟨fun g => ?_, fun g => ?_⟩
    rotate_left
    · have g := of_decide_eq_false (show decide ((l.length : Int) > 0) = false from g)
      intro _
      exact ⟨(done2 (fun h => by omega)).symm, rfl⟩
    have g1 := of_decide_eq_true (show decide ((l.length : Int) > 0) = true from g)
    have eW : IntKind.i64.wrap ((l.length : Int) - 1) = ((l.length - 1 : Nat) : Int) := by rw [wrapS _ ⟨by omega, by have := hV.1; omega⟩]; omega
    intro _; refine ⟨show 0 ≤ IntKind.i64.wrap ((l.length : Int) - 1) ∧ IntKind.i64.wrap ((l.length : Int) - 1) < (l.length : Int) by rw [eW]; omega, ?_⟩
    intro _; refine ⟨fun g => ?_, fun g => ?_⟩
    rotate_left
    · have g : (by' l (IntKind.i64.wrap ((l.length : Int) - 1)).toNat == 32) = false := g
      rw [eW] at g
      have g : ¬ by' l (l.length - 1) = 32 := by simpa using g
      intro _
      exact ⟨(done2 (fun h => g h.2)).symm, rfl⟩
    have g : (by' l (IntKind.i64.wrap ((l.length : Int) - 1)).toNat == 32) = true := g
    rw [eW] at g
    have gz : by' l (l.length - 1) = 32 := by simpa using g
    intro _; refine ⟨show 0 ≤ (0 : Int) ∧ (0 : Int) ≤ IntKind.i64.wrap ((l.length : Int) - 1) ∧ IntKind.i64.wrap ((l.length : Int) - 1) ≤ (l.length : Int) by rw [eW]; omega, ?_⟩
    cases n with
    | zero => omega
    | succ n =>
      refine ⟨⟨(n, l.take (l.length - 1)), by simp; omega, by omega, ?_⟩, by simp, th [] 0, rfl, rfl, rfl, rfl, rfl, rfl, ?_, ?_⟩
      · rw [← ht]
        simp only [trR]
        rw [if_pos ⟨by omega, gz⟩]
      · (repeat' first | exact trivial | exact rfl | refine And.intro ?_ ?_)
        show l.take (l.length - 1) = (l.drop (0 : Int).toNat).take ((IntKind.i64.wrap ((l.length : Int) - 1)).toNat - (0 : Int).toNat)
        rw [cut_hi, eW]
        rfl
      · (repeat' first | exact trivial | exact rfl | refine And.intro ?_ ?_)
  have g : (by' l 0 == 32) = true := g
  have gz : by' l 0 = 32 := by simpa using g
  intro _; refine ⟨show 0 ≤ (1 : Int) ∧ (1 : Int) ≤ (l.length : Int) ∧ (l.length : Int) ≤ (l.length : Int) by omega, ?_⟩
  cases n with
  | zero => omega
  | succ n =>
    refine ⟨⟨(n, l.drop 1), by simp; omega, by omega, ?_⟩, by simp, th [] 0, rfl, rfl, rfl, rfl, rfl, rfl, ?_, ?_⟩
    · rw [← ht]
      simp only [trL]
      rw [if_pos ⟨by omega, gz⟩]
    · (repeat' first | exact trivial | exact rfl | refine And.intro ?_ ?_)
      exact (cut_lo l).symm
    · (repeat' first | exact trivial | exact rfl | refine And.intro ?_ ?_)
/-! what begins and what ends -/
def dl (l : List UInt8) : List UInt8 := l.dropWhile fun b => b == 32
def hp : List UInt8 → Bool
  | [] => false
  | b :: _ => b == 126
theorem toNat32 {b : UInt8} : ((b.toNat : Int) = 32) ↔ b = 32 :=
  ⟨fun h => UInt8.toNat_inj.1 (by have : b.toNat = 32 := by omega
                                  rw [this]; rfl), fun h => by rw [h]; rfl⟩
theorem trL_eq : ∀ (n : Nat) (l : List UInt8), l.length ≤ n → trL n l = dl l
  | 0, l, h => by
    have : l = [] := List.eq_nil_of_length_eq_zero (by omega)
    subst this; rfl
  | n + 1, [], _ => by simp only [trL]; rw [if_neg (fun h => by simp at h)]; rfl
  | n + 1, b :: t, h => by
    simp only [trL]
    have e : by' (b :: t) 0 = (b.toNat : Int) := rfl
    rw [e]
    by_cases q : b = 32
    · rw [if_pos ⟨by simp, toNat32.2 q⟩, List.drop_one, List.tail_cons, trL_eq n t (by simpa using h)]
      unfold dl
      rw [List.dropWhile_cons, if_pos (by rw [q]; rfl)]
    · rw [if_neg (fun h => q (toNat32.1 h.2))]
      unfold dl
      rw [List.dropWhile_cons, if_neg (by simpa using q)]
theorem trR_eq : ∀ (n : Nat) (l : List UInt8), l.length ≤ n → trR n l = (dl l.reverse).reverse
  | 0, l, h => by
    have : l = [] := List.eq_nil_of_length_eq_zero (by omega)
    subst this; rfl
  | n + 1, l, h => by
    simp only [trR]
    rcases List.eq_nil_or_concat l with rfl | ⟨t, b, rfl⟩
    · rw [if_neg (fun h => by simp at h)]; rfl
    · simp only [List.concat_eq_append] at h ⊢
      have hl : (t ++ [b]).length = t.length + 1 := by simp
      have e : by' (t ++ [b]) ((t ++ [b]).length - 1) = (b.toNat : Int) := by
        rw [hl, Nat.add_sub_cancel]
        exact by_r t [b] 0
      rw [e, List.reverse_append, List.reverse_singleton, List.singleton_append]
      by_cases q : b = 32
      · rw [if_pos ⟨by omega, toNat32.2 q⟩]
        have e2 : (t ++ [b]).take ((t ++ [b]).length - 1) = t := by
          rw [hl, Nat.add_sub_cancel, List.take_left]
        rw [e2, trR_eq n t (by omega)]
        unfold dl
        rw [List.dropWhile_cons, if_pos (by rw [q]; rfl)]
      · rw [if_neg (fun h => q (toNat32.1 h.2))]
        unfold dl
        rw [List.dropWhile_cons, if_neg (by simpa using q)]
        simp
theorem dl_len (l : List UInt8) : (dl l).length ≤ l.length := (List.dropWhile_sublist _).length_le
theorem tr_eq {s : List UInt8} (h : s.length ≤ 2000) : tr s = (dl (dl s).reverse).reverse := by
  unfold tr
  rw [trL_eq 2000 s h, trR_eq 2000 _ (Nat.le_trans (dl_len s) h)]
theorem sh_cons (b : UInt8) (t : List UInt8) : sh (b :: t) = if b = 126 then sh t else b :: sh t := by
  unfold sh
  rw [List.filter_cons]
  by_cases q : b = 126
  · rw [if_pos q, if_neg (by simpa using q)]
  · rw [if_neg q, if_pos (by simpa using q)]
theorem dl_sh : ∀ l : List UInt8, hp (dl l) = false → dl (sh l) = sh (dl l)
  | [], _ => rfl
  | b :: t, h => by
    have e : dl (b :: t) = if b = 32 then dl t else b :: t := by
      unfold dl
      rw [List.dropWhile_cons]
      by_cases q : b = 32
      · rw [if_pos q, if_pos (by rw [q]; rfl)]
      · rw [if_neg q, if_neg (by simpa using q)]
    rw [e] at h ⊢
    by_cases q : b = 32
    · rw [if_pos q] at h ⊢
      rw [sh_cons, if_neg (by rw [q]; decide)]
      unfold dl
      rw [List.dropWhile_cons, if_pos (by rw [q]; rfl)]
      exact dl_sh t h
    · rw [if_neg q] at h ⊢
      have q6 : b ≠ 126 := by simpa [hp] using h
      rw [sh_cons, if_neg q6]
      unfold dl
      rw [List.dropWhile_cons, if_neg (by simpa using q)]
theorem sh_rev (l : List UInt8) : sh l.reverse = (sh l).reverse := by unfold sh; rw [List.filter_reverse]
theorem dl_last : ∀ l : List UInt8, dl (l ++ [126]) = dl l ++ [126]
  | [] => by decide
  | b :: t => by
    unfold dl
    rw [List.cons_append, List.dropWhile_cons, List.dropWhile_cons]
    split
    · exact dl_last t
    · rfl
theorem tr_sh {s : List UInt8} (hs : s.length ≤ 2000) (h1 : hp (tr s) = false) (h2 : hp (tr s).reverse = false) : tr (sh s) = sh (tr s) := by
  have hl : (sh s).length ≤ 2000 := Nat.le_trans (List.length_filter_le _ _) hs
  rw [tr_eq hs] at h1 h2 ⊢
  rw [tr_eq hl]
  rw [List.reverse_reverse] at h2
  have hu : hp (dl s) = false := by
    cases e : dl s with
    | nil => rfl
    | cons b t =>
      cases q : hp (b :: t) with
      | false => rfl
      | true =>
        have q : b = 126 := by simpa [hp] using q
        subst q
        rw [e, List.reverse_cons, dl_last, List.reverse_append] at h1
        simp [hp] at h1
  rw [dl_sh s hu, ← sh_rev, dl_sh _ h2, sh_rev]
theorem va_mem {s : List UInt8} : VA s ↔ s.length ≤ 2000 ∧ ∀ b ∈ s, cl (b.toNat : Int) ≠ 0 := by
  constructor
  · intro h
    refine ⟨h.1, fun b hb => ?_⟩
    obtain ⟨i, hi, rfl⟩ := List.getElem_of_mem hb
    have := h.2 i hi
    unfold by' at this
    rw [List.getD_eq_getElem?_getD, List.getElem?_eq_getElem hi] at this
    exact this
  · intro h
    refine ⟨h.1, fun i hi => ?_⟩
    unfold by'
    rw [List.getD_eq_getElem?_getD, List.getElem?_eq_getElem hi]
    exact h.2 _ (List.getElem_mem hi)
theorem va_sub {s t : List UInt8} (hV : VA s) (h : t.Sublist s) : VA t :=
  va_mem.2 ⟨Nat.le_trans h.length_le hV.1, fun b hb => (va_mem.1 hV).2 b (h.subset hb)⟩
theorem va_sh {s : List UInt8} (hV : VA s) : VA (sh s) := va_sub hV List.filter_sublist
theorem va_tr {s : List UInt8} (hV : VA s) : VA (tr s) := by
  rw [tr_eq hV.1]
  refine va_sub hV ?_
  have h1 : (dl s).Sublist s := List.dropWhile_sublist _
  have h2 : (dl (dl s).reverse).Sublist (dl s).reverse := List.dropWhile_sublist _
  have h3 := h2.reverse
  rw [List.reverse_reverse] at h3
  exact h3.trans h1
theorem take_one (s : List UInt8) (h : 0 < s.length) : (s.take 1 == [126]) = hp s := by
  cases s with
  | nil => simp at h
  | cons b t =>
    simp only [List.take_succ_cons, List.take_zero, hp]
    by_cases q : b = 126
    · subst q; rfl
    · have : (b == 126) = false := by simpa using q
      rw [this]
      simp [q]
theorem drop_last (s : List UInt8) (h : 0 < s.length) : (s.drop (s.length - 1) == [126]) = hp s.reverse := by
  rcases List.eq_nil_or_concat s with rfl | ⟨t, b, rfl⟩
  · simp at h
  · simp only [List.concat_eq_append]
    have hl : (t ++ [b]).length - 1 = t.length := by simp
    rw [hl, List.drop_left, List.reverse_append, List.reverse_singleton, List.singleton_append]
    simp only [hp]
    by_cases q : b = 126
    · subst q; rfl
    · have : (b == 126) = false := by simpa using q
      rw [this]
      simp [q]
theorem hp_nil {s : List UInt8} (h : ¬ 0 < s.length) : hp s = false ∧ hp s.reverse = false := by
  have : s = [] := List.eq_nil_of_length_eq_zero (by omega)
  subst this; exact ⟨rfl, rfl⟩
theorem pre_ok (s : List UInt8) (hl : s.length ≤ 9000000000000000000) : SemF Try.prog 22 [.str s, .str [126]] ⟨0, 0, []⟩ (fun v _ => v = .test (hp s) ∧ nameless v = true) := by
  refine SemF.test ?_
  refine enter tt_ok Try.func22 (nt := 8) (cd := body Try.f22) rfl rfl rfl rfl ?_
  intro _
  refine enter tt_ok Try.func32 (nt := 18) (cd := body Try.f32) rfl rfl rfl rfl ?_
  intro _; refine ⟨fun g => ?_, fun g => ?_⟩
  rotate_left
  · have g := of_decide_eq_false (show decide ((s.length : Int) ≥ 1) = false from g)
    intro _
    intro _
    exact ⟨false, .inl rfl, by rw [(hp_nil (s := s) (by omega)).1], rfl⟩
  have g := of_decide_eq_true (show decide ((s.length : Int) ≥ 1) = true from g)
  intro _; refine ⟨show 0 ≤ (0 : Int) ∧ (0 : Int) ≤ 1 ∧ (1 : Int) ≤ (s.length : Int) by omega, ?_⟩
  intro _
  intro _
  refine ⟨_, .inr rfl, ?_, rfl⟩
  rw [← take_one s (by omega)]
  rfl
theorem suf_ok (s : List UInt8) (hl : s.length ≤ 9000000000000000000) : SemF Try.prog 23 [.str s, .str [126]] ⟨0, 0, []⟩ (fun v _ => v = .test (hp s.reverse) ∧ nameless v = true) := by
  refine SemF.test ?_
  refine enter tt_ok Try.func23 (nt := 8) (cd := body Try.f23) rfl rfl rfl rfl ?_
  intro _
  refine enter tt_ok Try.func33 (nt := 21) (cd := body Try.f33) rfl rfl rfl rfl ?_
  intro _; refine ⟨fun g => ?_, fun g => ?_⟩
  rotate_left
  · have g := of_decide_eq_false (show decide ((s.length : Int) ≥ 1) = false from g)
    intro _
    intro _
    exact ⟨false, .inl rfl, by rw [(hp_nil (s := s) (by omega)).2], rfl⟩
  have g := of_decide_eq_true (show decide ((s.length : Int) ≥ 1) = true from g)
  have eW : IntKind.i64.wrap ((s.length : Int) - 1) = ((s.length - 1 : Nat) : Int) := by rw [wrapS _ ⟨by omega, by omega⟩]; omega
  intro _; refine ⟨show 0 ≤ IntKind.i64.wrap ((s.length : Int) - 1) ∧ IntKind.i64.wrap ((s.length : Int) - 1) ≤ (s.length : Int) ∧ (s.length : Int) ≤ (s.length : Int) by rw [eW]; omega, ?_⟩
  intro _
  intro _
  refine ⟨_, .inr rfl, ?_, rfl⟩
  rw [← drop_last s (by omega)]
  show V.test (((s.drop (IntKind.i64.wrap ((s.length : Int) - 1)).toNat).take ((s.length : Int).toNat - (IntKind.i64.wrap ((s.length : Int) - 1)).toNat)) == [126]) = _
  rw [eW, List.take_of_length_le (by simp)]
  rfl
theorem shown_va (s : List UInt8) (hV : VA s) : SemF Try.prog 10 [.str s] ⟨0, 0, []⟩ (fun v _ => v = .tup [.str (sh s), .int .i64 0] ∧ nameless v = true) :=
  (Shown_ok s (by have := hV.1; omega)).mono fun v _ h => ⟨by rw [h.1]; unfold SQ; rw [if_pos hV], h.2⟩
theorem trim_va (s : List UInt8) (hV : VA s) : SemF Try.prog 18 [.str s] ⟨0, 0, []⟩ (fun v _ => v = .tup [.str (tr s), .int .i64 0] ∧ nameless v = true) :=
  (Trim_ok s (by have := hV.1; omega)).mono fun v _ h => ⟨by rw [h.1]; unfold TQ; rw [if_pos hV], h.2⟩
theorem by_bd (s : List UInt8) (i : Nat) : 0 ≤ by' s i ∧ by' s i ≤ 255 := by
  unfold by'
  have := (s.getD i 0).toNat_lt
  omega
theorem Class_ok (n : Int) (h : 0 ≤ n ∧ n ≤ 255) : SemF Try.prog 14 [.int .u8 n] ⟨0, 0, []⟩ (fun v _ => v = .int .i64 (cl n) ∧ nameless v = true) := by
  refine enter tt_ok Try.func14 (nt := 6) (cd := body Try.f14) rfl rfl rfl rfl ?_
  intro _
  have e : IntKind.i32.wrap n = n := by
    rw [IntKind.wrap_i32]; omega
  refine call_pure [] (class_ok (IntKind.i32.wrap n)) rfl rfl rfl ?_ ?_ ?_
  · (repeat' first | exact trivial | exact rfl | refine And.intro ?_ ?_)
  · (repeat' first | exact trivial | exact rfl | refine And.intro ?_ ?_)
  intro v hv _
  subst hv
  intro _
  exact ⟨by rw [e], rfl⟩
theorem cl_nn (n : Int) : 0 ≤ cl n := by unfold cl; (repeat' split) <;> omega
def rg (s : List UInt8) (k : Nat) : Prop := s.length ≤ 2000 ∧ ∀ i, i < k → cl (by' s i) ≠ 0
instance decRg (s : List UInt8) (k : Nat) : Decidable (rg s k) := inferInstanceAs (Decidable (_ ∧ _))
theorem law8 (s : List UInt8) (hl : s.length ≤ 9223372036854775807) : SemF Try.prog 8 [.str s] ⟨0, 0, []⟩ (fun v _ => IsTrue v) := by
  refine enter tt_ok Try.func8 (nt := 99) (cd := body Try.f8) rfl rfl rfl rfl ?_
  intro _
  refine head_ok rfl Try.func9 (cd := body Try.f9) rfl ?_
  intro _; refine ⟨fun g => ?_, fun g => ?_⟩
  · intro _
    rfl
  have h3 := of_decide_eq_false (show decide ((s.length : Int) > 3000) = false from g)
  intro _
  refine loop2 tt_ok [4, 5] [] 0 (fun k : { k : Nat // k ≤ s.length } => [(4, .test (decide (rg s k))), (5, .int .i64 (k : Nat))]) (fun _ => []) (fun k => s.length - k) ⟨0, by omega⟩ ?_
  intro _
  refine ⟨⟨th [] 0, rfl, rfl, rfl, rfl, rfl, rfl, ?_, ?_⟩, ?_⟩
  · (repeat' first | exact trivial | exact rfl | refine And.intro ?_ ?_)
    show decide (rg s 0) = decide ((s.length : Int) ≤ 2000)
    exact decide_eq_decide.2 ⟨fun h => by have := h.1; omega, fun h => ⟨by omega, fun i hi => by omega⟩⟩
  · (repeat' first | exact trivial | exact rfl | refine And.intro ?_ ?_)
  intro ⟨k, hk⟩
  intro _; refine ⟨fun g => ?_, fun g => ?_⟩
  · have hkl := of_decide_eq_true (show decide ((k : Int) < (s.length : Int)) = true from g)
    have ek := (wrap_nat k (by omega)).symm
    intro _; refine ⟨fun g => ?_, fun g => ?_⟩
    rotate_left
    · have gr := of_decide_eq_false (show decide (rg s k) = false from g)
      refine ⟨⟨k + 1, by omega⟩, by simp; omega, th [] 0, rfl, rfl, rfl, rfl, rfl, rfl, ?_, ?_⟩
      · (repeat' first | exact trivial | exact rfl | refine And.intro ?_ ?_)
        · show decide (rg s (k + 1)) = false
          exact decide_eq_false (fun h => gr ⟨h.1, fun i hi => h.2 i (by omega)⟩)
        · exact ek
      · (repeat' first | exact trivial | exact rfl | refine And.intro ?_ ?_)
    have gr := of_decide_eq_true (show decide (rg s k) = true from g)
    intro _; refine ⟨show 0 ≤ (k : Int) ∧ (k : Int) < (s.length : Int) by omega, ?_⟩
    intro _
    refine call_pure [] (Class_ok (by' s k) (by_bd s k)) rfl rfl rfl ?_ ?_ ?_
    · (repeat' first | exact trivial | exact rfl | refine And.intro ?_ ?_)
    · (repeat' first | exact trivial | exact rfl | refine And.intro ?_ ?_)
    intro v hv _
    subst hv
    refine ⟨⟨k + 1, by omega⟩, by simp; omega, th [] 0, rfl, rfl, rfl, rfl, rfl, rfl, ?_, ?_⟩
    · (repeat' first | exact trivial | exact rfl | refine And.intro ?_ ?_)
      · show decide (rg s (k + 1)) = decide (cl (by' s k) > 0)
        have := cl_nn (by' s k)
        exact decide_eq_decide.2 ⟨fun h => by have := h.2 k (by omega); omega, fun h => ⟨gr.1, by_succ gr.2 (by omega)⟩⟩
      · exact ek
    · (repeat' first | exact trivial | exact rfl | refine And.intro ?_ ?_)
  have hkl := of_decide_eq_false (show decide ((k : Int) < (s.length : Int)) = false from g)
  have hkl : k = s.length := by omega
  subst hkl
  have er : decide (rg s s.length) = decide (VA s) := rfl
  intro _
  refine call_pure [] (valid_ok s hl) rfl rfl rfl ?_ ?_ ?_
  · (repeat' first | exact trivial | exact rfl | refine And.intro ?_ ?_)
  · (repeat' first | exact trivial | exact rfl | refine And.intro ?_ ?_)
  intro v hv _
  subst hv
  intro _; refine ⟨fun g => ?_, fun g => ?_⟩
  · exfalso
    have g : (!(decide (VA s) == decide (rg s s.length))) = true := g
    rw [er] at g
    simp at g
  intro _; refine ⟨fun g => ?_, fun g => ?_⟩
  · intro _
    rfl
  have g : (!decide (rg s s.length)) = false := g
  rw [er, Bool.not_eq_false'] at g
  have hV := of_decide_eq_true g
  have h20 := hV.1
  intro _
  refine call_pure [] (pre_ok s (by omega)) rfl rfl rfl ?_ ?_ ?_
  · (repeat' first | exact trivial | exact rfl | refine And.intro ?_ ?_)
  · (repeat' first | exact trivial | exact rfl | refine And.intro ?_ ?_)
  intro v hv _
  subst hv
  intro _; refine ⟨fun g => ?_, fun g => ?_⟩
  · intro _
    rfl
  intro _
  refine call_pure [] (suf_ok s (by omega)) rfl rfl rfl ?_ ?_ ?_
  · (repeat' first | exact trivial | exact rfl | refine And.intro ?_ ?_)
  · (repeat' first | exact trivial | exact rfl | refine And.intro ?_ ?_)
  intro v hv _
  subst hv
  intro _; refine ⟨fun g => ?_, fun g => ?_⟩
  · intro _
    rfl
  intro _
  refine call_pure [] (shown_va s hV) rfl rfl rfl ?_ ?_ ?_
  · (repeat' first | exact trivial | exact rfl | refine And.intro ?_ ?_)
  · (repeat' first | exact trivial | exact rfl | refine And.intro ?_ ?_)
  intro v hv _
  subst hv
  intro _
  refine call_pure [] (trim_va (sh s) (va_sh hV)) rfl rfl rfl ?_ ?_ ?_
  · (repeat' first | exact trivial | exact rfl | refine And.intro ?_ ?_)
  · (repeat' first | exact trivial | exact rfl | refine And.intro ?_ ?_)
  intro v hv _
  subst hv
  intro _
  refine call_pure [] (trim_va s hV) rfl rfl rfl ?_ ?_ ?_
  · (repeat' first | exact trivial | exact rfl | refine And.intro ?_ ?_)
  · (repeat' first | exact trivial | exact rfl | refine And.intro ?_ ?_)
  intro v hv _
  subst hv
  intro _
  refine call_pure [] (shown_va (tr s) (va_tr hV)) rfl rfl rfl ?_ ?_ ?_
  · (repeat' first | exact trivial | exact rfl | refine And.intro ?_ ?_)
  · (repeat' first | exact trivial | exact rfl | refine And.intro ?_ ?_)
  intro v hv _
  subst hv
  iterate 4
    intro _; refine ⟨fun g => absurd (show ((0 : Int) != 0) = true from g) (by decide), fun _ => ?_⟩
  have ht := (va_tr hV).1
  intro _; refine ⟨fun g => ?_, fun g => ?_⟩
  · intro _
    rfl
  have g : (tr (sh s) == sh (tr s)) = false := g
  have gn : tr (sh s) ≠ sh (tr s) := by simpa using g
  intro _
  refine call_pure [] (pre_ok (tr s) (by omega)) rfl rfl rfl ?_ ?_ ?_
  · (repeat' first | exact trivial | exact rfl | refine And.intro ?_ ?_)
  · (repeat' first | exact trivial | exact rfl | refine And.intro ?_ ?_)
  intro v hv _
  subst hv
  intro _; refine ⟨fun g => ?_, fun g => ?_⟩
  · intro _
    rfl
  have g1 : hp (tr s) = false := g
  intro _
  refine call_pure [] (suf_ok (tr s) (by omega)) rfl rfl rfl ?_ ?_ ?_
  · (repeat' first | exact trivial | exact rfl | refine And.intro ?_ ?_)
  · (repeat' first | exact trivial | exact rfl | refine And.intro ?_ ?_)
  intro v hv _
  subst hv
  intro _
  show hp (tr s).reverse = true
  cases e : hp (tr s).reverse with
  | true => rfl
  | false => exact absurd (tr_sh h20 g1 e) gn
/-! counted, found -/
theorem cnt_ok (s : List UInt8) (c : UInt8) : SemF Try.prog 21 [.str s, .str [c]] ⟨0, 0, []⟩ (fun v _ => v = .int .i64 (s.count c : Nat) ∧ nameless v = true) := by
  refine enter tt_ok Try.func21 (nt := 34) (cd := body Try.f21) rfl rfl rfl rfl ?_
  intro _; refine ⟨fun g => absurd (show ((1 : Int) == 0) = true from g) (by decide), fun _ => ?_⟩
  intro _; refine ⟨fun _ => ?_, fun g => absurd (show ((1 : Int) == 1) = false from g) (by decide)⟩
  intro _; refine ⟨show 0 ≤ (0 : Int) ∧ (0 : Int) < (1 : Int) by omega, ?_⟩
  intro _
  refine .inl ⟨Try.f31, _, _, Try.func31, rfl, rfl, ⟨_, _, rfl, .inl ⟨by kernel_rfl, by kernel_rfl, rfl⟩⟩, ?_⟩
  intro _
  refine ⟨?_, rfl⟩
  show V.int .i64 (Lib.countByte s ((c.toNat : Int)).toNat.toUInt8 : Nat) = _
  unfold Lib.countByte
  congr 2
  congr 1
  simp
theorem idx_no : ∀ {s : List UInt8} {c : UInt8}, c ∉ s → Lib.indexByte s c = -1
  | [], _, _ => rfl
  | b :: l, c, h => by
    have h1 : ¬ b = c := fun e => h (by rw [e]; exact List.mem_cons_self)
    have h2 := idx_no (s := l) (c := c) (fun e => h (List.mem_cons_of_mem _ e))
    simp only [Lib.indexByte]
    rw [if_neg (by simpa using h1), h2]
    rfl
theorem has_no (s : List UInt8) (h : (126 : UInt8) ∉ s) : SemF Try.prog 20 [.str s, .str [126]] ⟨0, 0, []⟩ (fun v _ => v = .test false ∧ nameless v = true) := by
  refine SemF.test ?_
  refine enter tt_ok Try.func20 (nt := 9) (cd := body Try.f20) rfl rfl rfl rfl ?_
  intro _
  refine enter tt_ok Try.func24 (nt := 8) (cd := body Try.f24) rfl rfl rfl rfl ?_
  intro _
  refine enter tt_ok Try.func34 (nt := 143) (cd := body Try.f34) rfl rfl rfl rfl ?_
  intro _; refine ⟨fun g => absurd (show ((1 : Int) == 0) = true from g) (by decide), fun _ => ?_⟩
  intro _; refine ⟨fun g => ?_, fun g => ?_⟩
  · exfalso
    have g : (([126] : List UInt8) == s) = true := g
    have g : [126] = s := by simpa using g
    exact h (by rw [← g]; exact List.mem_cons_self)
  intro _; refine ⟨fun _ => ?_, fun g => absurd (show ((1 : Int) == 1) = false from g) (by decide)⟩
  intro _; refine ⟨show 0 ≤ (0 : Int) ∧ (0 : Int) < (1 : Int) by omega, ?_⟩
  intro _
  refine .inr ?_
  intro _
  refine enter tt_ok Try.func39 (nt := 8) (cd := body Try.f39) rfl rfl rfl rfl ?_
  intro _
  refine .inl ⟨Try.f43, _, _, Try.func43, rfl, rfl, ⟨_, _, rfl, .inr ⟨by kernel_rfl, by kernel_rfl, rfl⟩⟩, ?_⟩
  have e : Lib.indexByte s (((126 : UInt8).toNat : Int)).toNat.toUInt8 = -1 := idx_no h
  intro _
  intro _
  intro _
  intro _
  refine ⟨_, .inr rfl, ?_, rfl⟩
  show V.test (decide (Lib.indexByte s (((126 : UInt8).toNat : Int)).toNat.toUInt8 ≥ 0)) = _
  rw [e]
  rfl
theorem sh_count : ∀ s : List UInt8, (sh s).length + s.count 126 = s.length
  | [] => rfl
  | b :: t => by
    have ih := sh_count t
    rw [sh_cons, List.count_cons]
    by_cases q : b = 126
    · rw [if_pos q, if_pos (by rw [q]; rfl), List.length_cons]
      omega
    · rw [if_neg q, if_neg (by simpa using q), List.length_cons, List.length_cons]
      omega
theorem sh_sh (s : List UInt8) : sh (sh s) = sh s := by unfold sh; rw [List.filter_filter]; congr 1; funext b; simp
theorem sh_not (s : List UInt8) : (126 : UInt8) ∉ sh s := fun h => absurd (List.mem_filter.1 h).2 (by decide)
theorem law4 (s : List UInt8) (hl : s.length ≤ 9223372036854775807) : SemF Try.prog 4 [.str s] ⟨0, 0, []⟩ (fun v _ => IsTrue v) := by
  refine enter tt_ok Try.func4 (nt := 56) (cd := body Try.f4) rfl rfl rfl rfl ?_
  intro _
  refine head_ok rfl Try.func9 (cd := body Try.f9) rfl ?_
  intro _
  refine call_pure [] (rvalid_ok s hl) rfl rfl rfl ?_ ?_ ?_
  · (repeat' first | exact trivial | exact rfl | refine And.intro ?_ ?_)
  · (repeat' first | exact trivial | exact rfl | refine And.intro ?_ ?_)
  intro v hv _
  subst hv
  intro _; refine ⟨fun g => ?_, fun g => ?_⟩
  · intro _
    rfl
  have g : (!decide (VA s)) = false := g
  rw [Bool.not_eq_false'] at g
  have hV := of_decide_eq_true g
  have h20 := hV.1
  intro _
  refine call_pure [] (shown_va s hV) rfl rfl rfl ?_ ?_ ?_
  · (repeat' first | exact trivial | exact rfl | refine And.intro ?_ ?_)
  · (repeat' first | exact trivial | exact rfl | refine And.intro ?_ ?_)
  intro v hv _
  subst hv
  intro _
  refine call_pure [] (shown_va (sh s) (va_sh hV)) rfl rfl rfl ?_ ?_ ?_
  · (repeat' first | exact trivial | exact rfl | refine And.intro ?_ ?_)
  · (repeat' first | exact trivial | exact rfl | refine And.intro ?_ ?_)
  intro v hv _
  subst hv
  iterate 2
    intro _; refine ⟨fun _ => ?_, fun g => absurd (show ((0 : Int) == 0) = false from g) (by decide)⟩
  intro _; refine ⟨fun g => ?_, fun g => ?_⟩
  rotate_left
  · exfalso
    have g : (sh s == sh (sh s)) = false := g
    rw [sh_sh] at g
    simp at g
  intro _
  refine call_pure [] (valid_ok (sh s) (by have := (va_sh hV).1; omega)) rfl rfl rfl ?_ ?_ ?_
  · (repeat' first | exact trivial | exact rfl | refine And.intro ?_ ?_)
  · (repeat' first | exact trivial | exact rfl | refine And.intro ?_ ?_)
  intro v hv _
  subst hv
  intro _; refine ⟨fun g => ?_, fun g => ?_⟩
  rotate_left
  · exfalso
    exact of_decide_eq_false (show decide (VA (sh s)) = false from g) (va_sh hV)
  intro _
  refine call_pure [] (has_no (sh s) (sh_not s)) rfl rfl rfl ?_ ?_ ?_
  · (repeat' first | exact trivial | exact rfl | refine And.intro ?_ ?_)
  · (repeat' first | exact trivial | exact rfl | refine And.intro ?_ ?_)
  intro v hv _
  subst hv
  intro _; refine ⟨fun _ => ?_, fun g => absurd (show (!false) = false from g) (by decide)⟩
  intro _
  refine call_pure [] (cnt_ok s 126) rfl rfl rfl ?_ ?_ ?_
  · (repeat' first | exact trivial | exact rfl | refine And.intro ?_ ?_)
  · (repeat' first | exact trivial | exact rfl | refine And.intro ?_ ?_)
  intro v hv _
  subst hv
  have hc := sh_count s
  intro _
  show (IntKind.i64.wrap (((sh s).length : Int) + ((s.count 126 : Nat) : Int)) == (s.length : Int)) = true
  rw [wrapS _ ⟨by omega, by omega⟩]
  simp
  omega
/-! words are there exactly if something is -/
theorem cn_zero (t : List UInt8) : ∀ k, cn t k = 0 ↔ ∀ i, i < k → by' t i = 32
  | 0 => ⟨fun _ i hi => by omega, fun _ => rfl⟩
  | k + 1 => by
    have ih := cn_zero t k
    have hb := cn_bd t k
    simp only [cn]
    constructor
    · intro h
      have h0 : cn t k = 0 := by
        revert h; split <;> intro h <;> omega
      have ha := ih.1 h0
      rw [h0, Int.zero_add] at h
      have hk : by' t k = 32 := by
        rcases Classical.em (by' t k = 32) with e | e
        · exact e
        · exfalso
          rw [if_pos ⟨e, by
            rcases Nat.eq_zero_or_pos k with z | z
            · exact .inl z
            · exact .inr (ha (k - 1) (by omega))⟩] at h
          omega
      intro i hi
      by_cases e : i = k
      · subst e; exact hk
      · exact ha i (by omega)
    · intro h
      rw [ih.2 (fun i hi => h i (by omega)), if_neg (fun q => q.1 (h k (by omega)))]
      rfl
theorem cn_half (t : List UInt8) : ∀ k, 2 * cn t k ≤ k + 1 ∧ ((k = 0 ∨ by' t (k - 1) = 32) → 2 * cn t k ≤ k)
  | 0 => by simp [cn]
  | k + 1 => by
    have ih := cn_half t k
    simp only [cn, Nat.add_sub_cancel]
    by_cases q : by' t k ≠ 32 ∧ (k = 0 ∨ by' t (k - 1) = 32)
    · rw [if_pos q]
      have := ih.2 q.2
      refine ⟨by omega, fun h => ?_⟩
      rcases h with h | h
      · omega
      · exact absurd h q.1
    · rw [if_neg q]
      have := ih.1
      exact ⟨by omega, fun _ => by omega⟩
theorem count_all {t : List UInt8} : t.count 32 < t.length ↔ ¬ ∀ i, i < t.length → by' t i = 32 := by
  have hle : t.count 32 ≤ t.length := List.count_le_length
  have heq : t.count 32 = t.length ↔ ∀ i, i < t.length → by' t i = 32 := by
    rw [List.count_eq_length]
    constructor
    · intro h i hi
      unfold by'
      rw [List.getD_eq_getElem?_getD, List.getElem?_eq_getElem hi]
      have := h t[i] (List.getElem_mem hi)
      simp only [Option.getD_some]
      rw [← this]; rfl
    · intro h b hb
      obtain ⟨i, hi, rfl⟩ := List.getElem_of_mem hb
      have := h i hi
      unfold by' at this
      rw [List.getD_eq_getElem?_getD, List.getElem?_eq_getElem hi] at this
      exact (toNat32.1 this).symm
  rw [← heq]
  omega
theorem wc_sh (s : List UInt8) : wc (sh s) = wc s := by
  have e := wk_sh s s.length (Nat.le_refl _)
  rw [List.take_length] at e
  unfold wc
  rw [e]
theorem law5 (s : List UInt8) (hl : s.length ≤ 9223372036854775807) : SemF Try.prog 5 [.str s] ⟨0, 0, []⟩ (fun v _ => IsTrue v) := by
  refine enter tt_ok Try.func5 (nt := 70) (cd := body Try.f5) rfl rfl rfl rfl ?_
  intro _
  refine head_ok rfl Try.func9 (cd := body Try.f9) rfl ?_
  intro _
  refine call_pure [] (rvalid_ok s hl) rfl rfl rfl ?_ ?_ ?_
  · (repeat' first | exact trivial | exact rfl | refine And.intro ?_ ?_)
  · (repeat' first | exact trivial | exact rfl | refine And.intro ?_ ?_)
  intro v hv _
  subst hv
  intro _; refine ⟨fun g => ?_, fun g => ?_⟩
  · intro _
    rfl
  have g : (!decide (VA s)) = false := g
  rw [Bool.not_eq_false'] at g
  have hV := of_decide_eq_true g
  have h20 := hV.1
  have hx := (va_sh hV).1
  intro _
  refine call_pure [] (shown_va s hV) rfl rfl rfl ?_ ?_ ?_
  · (repeat' first | exact trivial | exact rfl | refine And.intro ?_ ?_)
  · (repeat' first | exact trivial | exact rfl | refine And.intro ?_ ?_)
  intro v hv _
  subst hv
  intro _
  refine call_pure [] (words_va s hV) rfl rfl rfl ?_ ?_ ?_
  · (repeat' first | exact trivial | exact rfl | refine And.intro ?_ ?_)
  · (repeat' first | exact trivial | exact rfl | refine And.intro ?_ ?_)
  intro v hv _
  subst hv
  intro _
  refine call_pure [] (words_va (sh s) (va_sh hV)) rfl rfl rfl ?_ ?_ ?_
  · (repeat' first | exact trivial | exact rfl | refine And.intro ?_ ?_)
  · (repeat' first | exact trivial | exact rfl | refine And.intro ?_ ?_)
  intro v hv _
  subst hv
  iterate 3
    intro _; refine ⟨fun _ => ?_, fun g => absurd (show ((0 : Int) == 0) = false from g) (by decide)⟩
  intro _; refine ⟨fun g => ?_, fun g => ?_⟩
  rotate_left
  · exfalso
    have g : (wc s == wc (sh s)) = false := g
    rw [wc_sh] at g
    simp at g
  have ec := cn_sh s
  have b1 := cn_bd (sh s) (sh s).length
  have b2 := (cn_half (sh s) (sh s).length).1
  have b3 := cn_zero (sh s) (sh s).length
  have b4 := count_all (t := sh s)
  rw [ec] at b1 b2 b3
  intro _
  refine call_pure [] (cnt_ok (sh s) 32) rfl rfl rfl ?_ ?_ ?_
  · (repeat' first | exact trivial | exact rfl | refine And.intro ?_ ?_)
  · (repeat' first | exact trivial | exact rfl | refine And.intro ?_ ?_)
  intro v hv _
  subst hv
  intro _; refine ⟨fun g => ?_, fun g => ?_⟩
  rotate_left
  · exfalso
    have g : (decide (wc s > 0) == decide ((((sh s).count 32 : Nat) : Int) < ((sh s).length : Int))) = false := g
    have : decide (wc s > 0) = decide ((((sh s).count 32 : Nat) : Int) < ((sh s).length : Int)) := decide_eq_decide.2 (by
      constructor
      · intro h
        have := b4.2 (fun q => by have := b3.2 q; omega)
        omega
      · intro h
        rcases Int.lt_or_le 0 (wc s) with q | q
        · exact q
        · exact absurd (b3.1 (by omega)) (b4.1 (by omega)))
    rw [this] at g
    simp at g
  intro _; refine ⟨fun g => ?_, fun g => ?_⟩
  rotate_left
  · exfalso
    have := of_decide_eq_false (show decide (wc s ≥ 0) = false from g)
    omega
  intro _
  show decide (IntKind.i64.wrap (2 * wc s) ≤ IntKind.i64.wrap (((sh s).length : Int) + 1)) = true
  rw [wrapS _ ⟨by omega, by omega⟩, wrapS _ ⟨by omega, by omega⟩]
  exact decide_eq_true b2

theorem walk (w : World) (s : List UInt8) (m_s : s.length ≤ maxLen) :
    Calls Try.prog 5 #[.string ⟨s.toArray⟩] w fun e w' => e = .returned (.bool true) ∧ Below w.heap.size w w' := by
  have h_s : s.length ≤ 9223372036854775807 := by unfold maxLen at m_s; omega
  exact top_run (by kernel_rfl) (by kernel_rfl) (T := [9]) (fun f hf w => by
      rcases List.mem_cons.1 hf with e | e
      · subst e; exact head w
      · exact (List.not_mem_nil e).elim) (l := []) (args := [.str s]) («as» := [.str s]) (cargs := [.string ⟨s.toArray⟩]) w
    (fun s h => by
      exact (List.not_mem_nil h).elim)
    (Cvs.cons mk_str Cvs.nil)
    (by simp only [Go.Vm.convs, Go.Vm.conv])
    ((law5 s h_s))

set_option maxRecDepth 100000 in
theorem lifted (os : Os) (started : os.Started) (H : Type) (enc : TypeId × Value → H) :
    ReturnsInHanded {} Try.checked os 5 .any (Rows.textWordsSpec.pre6 enc Try.prog Try.f5 Rows.textWordsRow.domain false) (Rows.textWordsSpec.post enc Try.prog Try.f5 false true false false) := by
  refine returnsInHanded_of_change (C := Try.checked) own started (by kernel_rfl) Try.func5
    (ChangeSpec.witness6 (enc := enc) (C := Try.checked) false ⟨#[], #[.string ⟨#[]⟩], []⟩ 8 (by kernel_rfl) (by kernel_rfl) (by kernel_rfl) (by kernel_rfl)) ?_
  intro W base args ds gs before hval0 hW hcnd _
  have hval : ∀ (j : Nat) t v, Try.f5.params[j]? = some t → args[j]? = some v → Value.okWide Try.prog W .any base t v := hval0
  have hW' := hW
  obtain ⟨p, q, hA0, hV, rfl, hfz, hnd⟩ := hW
  have hA : DataW.TrodAll enc Try.prog W 0 (fun _ => true) true Try.f5.params.toList args.toList ds p := hA0
  rw [Try.params5] at hA hval
  obtain ⟨v0, vs0, d0, ds0, p0, q0, hargs, rfl, rfl, h0, r0⟩ := trodAll_cons hA
  obtain ⟨rfl, rfl, rfl⟩ := trodAll_nil r0
  obtain rfl : args = #[v0] := by cases args; simp_all
  obtain ⟨rfl, rfl⟩ := trodVars_none hV
  obtain ⟨sb_s, rfl, rfl, rfl, m0_s⟩ := Go.ChangeMaps.open_string Try.underlying9 (hval 0 9 v0 rfl rfl) h0
  obtain ⟨s, rfl⟩ : ∃ a : List UInt8, sb_s = ⟨a.toArray⟩ := ⟨sb_s.data.toList, by cases sb_s; simp⟩
  clear hA0 hval0
  refine (walk W s (by simpa [ByteArray.size] using m0_s)).mono fun e W' ⟨he, hg⟩ => ?_
  subst he
  exact ⟨_, rfl, _, _, _, [], _, [], hW', trodAll_cons_mk (shut_bool Try.underlying4 _) trodAll_mk0, (trodAll_cons_mk (Go.ChangeMaps.shut_string Try.underlying9 m0_s) trodAll_mk0), rfl, hg.frame _, fun h => by cases h⟩

theorem over : Rows.textWordsRow.holds Try.pinned (OpenSpec.ofChange Rows.textWordsSpec) :=
  OpenClaim.holds_of_wide 5 Try.f5 rfl rfl rfl rfl rfl rfl rfl ⟨rfl, rfl, rfl, rfl, rfl⟩ rfl rfl rfl rfl rfl (by kernel_rfl) Try.func5 (by kernel_rfl)
    (of_decide_eq_true (by kernel_rfl)) (by unfold Func.isWrapper; first | (rw [if_pos (by decide +kernel)]; kernel_rfl) | (rw [if_neg (by decide +kernel)]; exact ⟨rfl, rfl⟩))
    (fun os started H enc _ => lifted os started H enc)

/-- the statement -/
theorem proved : Rows.TextWordsSaid :=
  over
#print axioms proved
end Go.Proofs.Ytgcopjcmaenneaa.textWords
