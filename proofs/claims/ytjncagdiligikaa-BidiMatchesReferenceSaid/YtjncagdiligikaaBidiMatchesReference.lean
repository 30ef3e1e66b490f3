/-
  BidiMatchesReference: whatever the arguments, the law returns true, and its arguments read as before. No conditions.
-/
import Derived.Test.YtjncagdiligikaaRows
import Derived.Test.YtjncagdiligikaaVwOpen2
import Derived.Test.YtjncagdiligikaaVwRules6
import Derived.Test.YtjncagdiligikaaVmSym
import Derived.WalkKit
import Derived.ProofKit
import Derived.OpenShut
import Derived.Carry
import Derived.ChangeMaps5
import Derived.Laws.RangeAny
namespace Go.Proofs.Ytjncagdiligikaa.bidiMatchesReference
open Go.ChangeShapes Go.WideShapes Go.ChangeAt Go.RowKit
open Go.Vm (Facts Val Sound)
open Go.Vm2
set_option linter.unusedVariables false
set_option linter.unusedSectionVars false
set_option linter.unusedSimpArgs false
set_option linter.unnecessarySimpa false

theorem own : ownKnob Try.prog.godebug = none := by kernel_rfl
theorem laidOut : laidOutB Try.prog = true := by kernel_rfl
def ts : List Nat := [9, 24, 3, 23, 5, 45, 46, 4, 48, 21, 42]
def tt : Go.Vm2.TT := [
  (9, ⟨.string, false, 1, .str [], true⟩),
  (24, ⟨(.int .i64), false, 1, .int .i64 (0), true⟩),
  (3, ⟨(.int .i64), false, 1, .int .i64 (0), true⟩),
  (23, ⟨(.slice 3 1 8 [.int .i64]), false, 1, .nils, true⟩),
  (5, ⟨(.int .u8), false, 1, .int .u8 (0), true⟩),
  (45, ⟨(.slice 5 1 1 [.int .u8]), false, 1, .nils, true⟩),
  (46, ⟨(.slice 4 1 1 [.bool]), false, 1, .nils, true⟩),
  (4, ⟨.bool, false, 1, .bool false, true⟩),
  (48, ⟨(.array 2 3 1), true, 2, .agg [.int .i64 (0), .int .i64 (0)], true⟩),
  (21, ⟨(.int .i32), false, 1, .int .i32 (0), true⟩),
  (42, ⟨.other, false, 1, .nilf, true⟩)]
theorem tt_mk : mkTT Try.prog ts = some tt := by kernel_rfl
theorem head (w : World) : Calls Try.prog 10 #[] w fun e w' => e = .returned (.bool true) ∧ Below w.heap.size w w' :=
  Go.Vm.head_run (by kernel_rfl) (by kernel_rfl) (n := 1000000) (by kernel_rfl) w
instance facts : Facts := ⟨[], [10], false⟩
instance val : Val := ⟨fun _ => 0⟩
instance sound : Sound := ⟨fun f hf => (List.not_mem_nil hf).elim⟩
theorem tt_ok : TTok Try.prog tt := ttok_mk tt_mk
def body (f : Func) : Code := match f.body with | some c => c | none => .skip
set_option maxRecDepth 100000
theorem wrap_nat (k : Nat) (h : k < 9223372036854775807) : IntKind.i64.wrap ((k : Int) + 1) = ((k + 1 : Nat) : Int) := by
  rw [IntKind.wrap_i64]; omega
theorem wrapS (n : Int) (h : -9000000000000000000 ≤ n ∧ n ≤ 9000000000000000000) : IntKind.i64.wrap n = n := by rw [IntKind.wrap_i64]; omega
/-! classes of bytes -/
def cl (n : Int) : Int := if 97 ≤ n ∧ n ≤ 122 then 1 else if 65 ≤ n ∧ n ≤ 90 then 2 else if 48 ≤ n ∧ n ≤ 57 then 3 else if n = 32 then 4 else if n = 126 then 6 else if 32 < n ∧ n < 126 then 5 else 0
theorem cl_high {n : Int} (h : 128 ≤ n) : cl n = 0 := by unfold cl; repeat' split
                                                         all_goals omega
theorem rclass_ok (n : Int) : SemF Try.prog 22 [.int .u8 n] ⟨0, 0, []⟩ (fun v _ => v = .int .i64 (cl n) ∧ nameless v = true) := by
  refine enter tt_ok Try.func22 (nt := 31) (cd := body Try.f22) rfl rfl rfl rfl ?_
  intro _; refine ⟨fun g => ?_, fun g => ?_⟩
  · have g := of_decide_eq_true (show decide (n ≥ 97) = true from g)
    intro _; refine ⟨fun g => ?_, fun g => ?_⟩
    · have g := of_decide_eq_true (show decide (n ≤ 122) = true from g)
      intro _
      exact ⟨by rw [show cl n = 1 by (unfold cl; repeat' split) <;> omega], rfl⟩
    · have g := of_decide_eq_false (show decide (n ≤ 122) = false from g)
      intro _; refine ⟨fun g => ?_, fun g => ?_⟩
      · have g := of_decide_eq_true (show decide (n ≥ 65) = true from g)
        intro _; refine ⟨fun g => ?_, fun g => ?_⟩
        · have g := of_decide_eq_true (show decide (n ≤ 90) = true from g)
          intro _
          exact ⟨by rw [show cl n = 2 by (unfold cl; repeat' split) <;> omega], rfl⟩
        · have g := of_decide_eq_false (show decide (n ≤ 90) = false from g)
          intro _; refine ⟨fun g => ?_, fun g => ?_⟩
          · have g := of_decide_eq_true (show decide (n ≥ 48) = true from g)
            intro _; refine ⟨fun g => ?_, fun g => ?_⟩
            · have g := of_decide_eq_true (show decide (n ≤ 57) = true from g)
              intro _
              exact ⟨by rw [show cl n = 3 by (unfold cl; repeat' split) <;> omega], rfl⟩
            · have g := of_decide_eq_false (show decide (n ≤ 57) = false from g)
              intro _; refine ⟨fun g => ?_, fun g => ?_⟩
              · have g : (n == 32) = true := g
                have g : n = 32 := by simpa using g
                intro _
                exact ⟨by rw [show cl n = 4 by (unfold cl; repeat' split) <;> omega], rfl⟩
              · have g : (n == 32) = false := g
                have g : ¬ n = 32 := by simpa using g
                intro _; refine ⟨fun g => ?_, fun g => ?_⟩
                · have g : (n == 126) = true := g
                  have g : n = 126 := by simpa using g
                  intro _
                  exact ⟨by rw [show cl n = 6 by (unfold cl; repeat' split) <;> omega], rfl⟩
                · have g : (n == 126) = false := g
                  have g : ¬ n = 126 := by simpa using g
                  intro _; refine ⟨fun g => ?_, fun g => ?_⟩
                  · have g := of_decide_eq_true (show decide (n > 32) = true from g)
                    intro _; refine ⟨fun g => ?_, fun g => ?_⟩
                    · have g := of_decide_eq_true (show decide (n < 126) = true from g)
                      intro _
                      exact ⟨by rw [show cl n = 5 by (unfold cl; repeat' split) <;> omega], rfl⟩
                    · have g := of_decide_eq_false (show decide (n < 126) = false from g)
                      intro _
                      exact ⟨by rw [show cl n = 0 by (unfold cl; repeat' split) <;> omega], rfl⟩
                  · have g := of_decide_eq_false (show decide (n > 32) = false from g)
                    intro _
                    exact ⟨by rw [show cl n = 0 by (unfold cl; repeat' split) <;> omega], rfl⟩
          · have g := of_decide_eq_false (show decide (n ≥ 48) = false from g)
            intro _; refine ⟨fun g => ?_, fun g => ?_⟩
            · have g : (n == 32) = true := g
              have g : n = 32 := by simpa using g
              intro _
              exact ⟨by rw [show cl n = 4 by (unfold cl; repeat' split) <;> omega], rfl⟩
            · have g : (n == 32) = false := g
              have g : ¬ n = 32 := by simpa using g
              intro _; refine ⟨fun g => ?_, fun g => ?_⟩
              · have g : (n == 126) = true := g
                have g : n = 126 := by simpa using g
                intro _
                exact ⟨by rw [show cl n = 6 by (unfold cl; repeat' split) <;> omega], rfl⟩
              · have g : (n == 126) = false := g
                have g : ¬ n = 126 := by simpa using g
                intro _; refine ⟨fun g => ?_, fun g => ?_⟩
                · have g := of_decide_eq_true (show decide (n > 32) = true from g)
                  intro _; refine ⟨fun g => ?_, fun g => ?_⟩
                  · have g := of_decide_eq_true (show decide (n < 126) = true from g)
                    intro _
                    exact ⟨by rw [show cl n = 5 by (unfold cl; repeat' split) <;> omega], rfl⟩
                  · have g := of_decide_eq_false (show decide (n < 126) = false from g)
                    intro _
                    exact ⟨by rw [show cl n = 0 by (unfold cl; repeat' split) <;> omega], rfl⟩
                · have g := of_decide_eq_false (show decide (n > 32) = false from g)
                  intro _
                  exact ⟨by rw [show cl n = 0 by (unfold cl; repeat' split) <;> omega], rfl⟩
      · have g := of_decide_eq_false (show decide (n ≥ 65) = false from g)
        intro _; refine ⟨fun g => ?_, fun g => ?_⟩
        · have g := of_decide_eq_true (show decide (n ≥ 48) = true from g)
          intro _; refine ⟨fun g => ?_, fun g => ?_⟩
          · have g := of_decide_eq_true (show decide (n ≤ 57) = true from g)
            intro _
            exact ⟨by rw [show cl n = 3 by (unfold cl; repeat' split) <;> omega], rfl⟩
          · have g := of_decide_eq_false (show decide (n ≤ 57) = false from g)
            intro _; refine ⟨fun g => ?_, fun g => ?_⟩
            · have g : (n == 32) = true := g
              have g : n = 32 := by simpa using g
              intro _
              exact ⟨by rw [show cl n = 4 by (unfold cl; repeat' split) <;> omega], rfl⟩
            · have g : (n == 32) = false := g
              have g : ¬ n = 32 := by simpa using g
              intro _; refine ⟨fun g => ?_, fun g => ?_⟩
              · have g : (n == 126) = true := g
                have g : n = 126 := by simpa using g
                intro _
                exact ⟨by rw [show cl n = 6 by (unfold cl; repeat' split) <;> omega], rfl⟩
              · have g : (n == 126) = false := g
                have g : ¬ n = 126 := by simpa using g
                intro _; refine ⟨fun g => ?_, fun g => ?_⟩
                · have g := of_decide_eq_true (show decide (n > 32) = true from g)
                  intro _; refine ⟨fun g => ?_, fun g => ?_⟩
                  · have g := of_decide_eq_true (show decide (n < 126) = true from g)
                    intro _
                    exact ⟨by rw [show cl n = 5 by (unfold cl; repeat' split) <;> omega], rfl⟩
                  · have g := of_decide_eq_false (show decide (n < 126) = false from g)
                    intro _
                    exact ⟨by rw [show cl n = 0 by (unfold cl; repeat' split) <;> omega], rfl⟩
                · have g := of_decide_eq_false (show decide (n > 32) = false from g)
                  intro _
                  exact ⟨by rw [show cl n = 0 by (unfold cl; repeat' split) <;> omega], rfl⟩
        · have g := of_decide_eq_false (show decide (n ≥ 48) = false from g)
          intro _; refine ⟨fun g => ?_, fun g => ?_⟩
          · have g : (n == 32) = true := g
            have g : n = 32 := by simpa using g
            intro _
            exact ⟨by rw [show cl n = 4 by (unfold cl; repeat' split) <;> omega], rfl⟩
          · have g : (n == 32) = false := g
            have g : ¬ n = 32 := by simpa using g
            intro _; refine ⟨fun g => ?_, fun g => ?_⟩
            · have g : (n == 126) = true := g
              have g : n = 126 := by simpa using g
              intro _
              exact ⟨by rw [show cl n = 6 by (unfold cl; repeat' split) <;> omega], rfl⟩
            · have g : (n == 126) = false := g
              have g : ¬ n = 126 := by simpa using g
              intro _; refine ⟨fun g => ?_, fun g => ?_⟩
              · have g := of_decide_eq_true (show decide (n > 32) = true from g)
                intro _; refine ⟨fun g => ?_, fun g => ?_⟩
                · have g := of_decide_eq_true (show decide (n < 126) = true from g)
                  intro _
                  exact ⟨by rw [show cl n = 5 by (unfold cl; repeat' split) <;> omega], rfl⟩
                · have g := of_decide_eq_false (show decide (n < 126) = false from g)
                  intro _
                  exact ⟨by rw [show cl n = 0 by (unfold cl; repeat' split) <;> omega], rfl⟩
              · have g := of_decide_eq_false (show decide (n > 32) = false from g)
                intro _
                exact ⟨by rw [show cl n = 0 by (unfold cl; repeat' split) <;> omega], rfl⟩
  · have g := of_decide_eq_false (show decide (n ≥ 97) = false from g)
    intro _; refine ⟨fun g => ?_, fun g => ?_⟩
    · have g := of_decide_eq_true (show decide (n ≥ 65) = true from g)
      intro _; refine ⟨fun g => ?_, fun g => ?_⟩
      · have g := of_decide_eq_true (show decide (n ≤ 90) = true from g)
        intro _
        exact ⟨by rw [show cl n = 2 by (unfold cl; repeat' split) <;> omega], rfl⟩
      · have g := of_decide_eq_false (show decide (n ≤ 90) = false from g)
        intro _; refine ⟨fun g => ?_, fun g => ?_⟩
        · have g := of_decide_eq_true (show decide (n ≥ 48) = true from g)
          intro _; refine ⟨fun g => ?_, fun g => ?_⟩
          · have g := of_decide_eq_true (show decide (n ≤ 57) = true from g)
            intro _
            exact ⟨by rw [show cl n = 3 by (unfold cl; repeat' split) <;> omega], rfl⟩
          · have g := of_decide_eq_false (show decide (n ≤ 57) = false from g)
            intro _; refine ⟨fun g => ?_, fun g => ?_⟩
            · have g : (n == 32) = true := g
              have g : n = 32 := by simpa using g
              intro _
              exact ⟨by rw [show cl n = 4 by (unfold cl; repeat' split) <;> omega], rfl⟩
            · have g : (n == 32) = false := g
              have g : ¬ n = 32 := by simpa using g
              intro _; refine ⟨fun g => ?_, fun g => ?_⟩
              · have g : (n == 126) = true := g
                have g : n = 126 := by simpa using g
                intro _
                exact ⟨by rw [show cl n = 6 by (unfold cl; repeat' split) <;> omega], rfl⟩
              · have g : (n == 126) = false := g
                have g : ¬ n = 126 := by simpa using g
                intro _; refine ⟨fun g => ?_, fun g => ?_⟩
                · have g := of_decide_eq_true (show decide (n > 32) = true from g)
                  intro _; refine ⟨fun g => ?_, fun g => ?_⟩
                  · have g := of_decide_eq_true (show decide (n < 126) = true from g)
                    intro _
                    exact ⟨by rw [show cl n = 5 by (unfold cl; repeat' split) <;> omega], rfl⟩
                  · have g := of_decide_eq_false (show decide (n < 126) = false from g)
                    intro _
                    exact ⟨by rw [show cl n = 0 by (unfold cl; repeat' split) <;> omega], rfl⟩
                · have g := of_decide_eq_false (show decide (n > 32) = false from g)
                  intro _
                  exact ⟨by rw [show cl n = 0 by (unfold cl; repeat' split) <;> omega], rfl⟩
        · have g := of_decide_eq_false (show decide (n ≥ 48) = false from g)
          intro _; refine ⟨fun g => ?_, fun g => ?_⟩
          · have g : (n == 32) = true := g
            have g : n = 32 := by simpa using g
            intro _
            exact ⟨by rw [show cl n = 4 by (unfold cl; repeat' split) <;> omega], rfl⟩
          · have g : (n == 32) = false := g
            have g : ¬ n = 32 := by simpa using g
            intro _; refine ⟨fun g => ?_, fun g => ?_⟩
            · have g : (n == 126) = true := g
              have g : n = 126 := by simpa using g
              intro _
              exact ⟨by rw [show cl n = 6 by (unfold cl; repeat' split) <;> omega], rfl⟩
            · have g : (n == 126) = false := g
              have g : ¬ n = 126 := by simpa using g
              intro _; refine ⟨fun g => ?_, fun g => ?_⟩
              · have g := of_decide_eq_true (show decide (n > 32) = true from g)
                intro _; refine ⟨fun g => ?_, fun g => ?_⟩
                · have g := of_decide_eq_true (show decide (n < 126) = true from g)
                  intro _
                  exact ⟨by rw [show cl n = 5 by (unfold cl; repeat' split) <;> omega], rfl⟩
                · have g := of_decide_eq_false (show decide (n < 126) = false from g)
                  intro _
                  exact ⟨by rw [show cl n = 0 by (unfold cl; repeat' split) <;> omega], rfl⟩
              · have g := of_decide_eq_false (show decide (n > 32) = false from g)
                intro _
                exact ⟨by rw [show cl n = 0 by (unfold cl; repeat' split) <;> omega], rfl⟩
    · have g := of_decide_eq_false (show decide (n ≥ 65) = false from g)
      intro _; refine ⟨fun g => ?_, fun g => ?_⟩
      · have g := of_decide_eq_true (show decide (n ≥ 48) = true from g)
        intro _; refine ⟨fun g => ?_, fun g => ?_⟩
        · have g := of_decide_eq_true (show decide (n ≤ 57) = true from g)
          intro _
          exact ⟨by rw [show cl n = 3 by (unfold cl; repeat' split) <;> omega], rfl⟩
        · have g := of_decide_eq_false (show decide (n ≤ 57) = false from g)
          intro _; refine ⟨fun g => ?_, fun g => ?_⟩
          · have g : (n == 32) = true := g
            have g : n = 32 := by simpa using g
            intro _
            exact ⟨by rw [show cl n = 4 by (unfold cl; repeat' split) <;> omega], rfl⟩
          · have g : (n == 32) = false := g
            have g : ¬ n = 32 := by simpa using g
            intro _; refine ⟨fun g => ?_, fun g => ?_⟩
            · have g : (n == 126) = true := g
              have g : n = 126 := by simpa using g
              intro _
              exact ⟨by rw [show cl n = 6 by (unfold cl; repeat' split) <;> omega], rfl⟩
            · have g : (n == 126) = false := g
              have g : ¬ n = 126 := by simpa using g
              intro _; refine ⟨fun g => ?_, fun g => ?_⟩
              · have g := of_decide_eq_true (show decide (n > 32) = true from g)
                intro _; refine ⟨fun g => ?_, fun g => ?_⟩
                · have g := of_decide_eq_true (show decide (n < 126) = true from g)
                  intro _
                  exact ⟨by rw [show cl n = 5 by (unfold cl; repeat' split) <;> omega], rfl⟩
                · have g := of_decide_eq_false (show decide (n < 126) = false from g)
                  intro _
                  exact ⟨by rw [show cl n = 0 by (unfold cl; repeat' split) <;> omega], rfl⟩
              · have g := of_decide_eq_false (show decide (n > 32) = false from g)
                intro _
                exact ⟨by rw [show cl n = 0 by (unfold cl; repeat' split) <;> omega], rfl⟩
      · have g := of_decide_eq_false (show decide (n ≥ 48) = false from g)
        intro _; refine ⟨fun g => ?_, fun g => ?_⟩
        · have g : (n == 32) = true := g
          have g : n = 32 := by simpa using g
          intro _
          exact ⟨by rw [show cl n = 4 by (unfold cl; repeat' split) <;> omega], rfl⟩
        · have g : (n == 32) = false := g
          have g : ¬ n = 32 := by simpa using g
          intro _; refine ⟨fun g => ?_, fun g => ?_⟩
          · have g : (n == 126) = true := g
            have g : n = 126 := by simpa using g
            intro _
            exact ⟨by rw [show cl n = 6 by (unfold cl; repeat' split) <;> omega], rfl⟩
          · have g : (n == 126) = false := g
            have g : ¬ n = 126 := by simpa using g
            intro _; refine ⟨fun g => ?_, fun g => ?_⟩
            · have g := of_decide_eq_true (show decide (n > 32) = true from g)
              intro _; refine ⟨fun g => ?_, fun g => ?_⟩
              · have g := of_decide_eq_true (show decide (n < 126) = true from g)
                intro _
                exact ⟨by rw [show cl n = 5 by (unfold cl; repeat' split) <;> omega], rfl⟩
              · have g := of_decide_eq_false (show decide (n < 126) = false from g)
                intro _
                exact ⟨by rw [show cl n = 0 by (unfold cl; repeat' split) <;> omega], rfl⟩
            · have g := of_decide_eq_false (show decide (n > 32) = false from g)
              intro _
              exact ⟨by rw [show cl n = 0 by (unfold cl; repeat' split) <;> omega], rfl⟩
theorem dig_test (n : Int) (h : H) (K : V → H → Prop) (hK : K (.test (decide (48 ≤ n ∧ n ≤ 57))) h) : SemF Try.prog 37 [.int .i32 n] h K := by
  refine SemF.test ?_
  refine enter tt_ok Try.func37 (nt := 9) (cd := body Try.f37) rfl rfl rfl rfl ?_
  intro _; refine ⟨fun g => ?_, fun g => ?_⟩
  · have g := of_decide_eq_true (show decide (n ≥ 48) = true from g)
    intro _
    refine ⟨_, .inr rfl, ?_⟩
    have : decide (48 ≤ n ∧ n ≤ 57) = decide (n ≤ 57) := by
      by_cases e : n ≤ 57
      · rw [decide_eq_true e, decide_eq_true (show 48 ≤ n ∧ n ≤ 57 from ⟨by omega, e⟩)]
      · rw [decide_eq_false e, decide_eq_false (fun m => e m.2)]
    rw [← this]; exact hK
  · have g := of_decide_eq_false (show decide (n ≥ 48) = false from g)
    intro _
    refine ⟨false, .inl rfl, ?_⟩
    have : decide (48 ≤ n ∧ n ≤ 57) = false := decide_eq_false (fun m => by have := m.1; omega)
    rw [← this]; exact hK
theorem cap_test (n : Int) (h : H) (K : V → H → Prop) (hK : K (.test (decide (65 ≤ n ∧ n ≤ 90))) h) : SemF Try.prog 38 [.int .i32 n] h K := by
  refine SemF.test ?_
  refine enter tt_ok Try.func38 (nt := 9) (cd := body Try.f38) rfl rfl rfl rfl ?_
  intro _; refine ⟨fun g => ?_, fun g => ?_⟩
  · have g := of_decide_eq_true (show decide (n ≥ 65) = true from g)
    intro _
    refine ⟨_, .inr rfl, ?_⟩
    have : decide (65 ≤ n ∧ n ≤ 90) = decide (n ≤ 90) := by
      by_cases e : n ≤ 90
      · rw [decide_eq_true e, decide_eq_true (show 65 ≤ n ∧ n ≤ 90 from ⟨by omega, e⟩)]
      · rw [decide_eq_false e, decide_eq_false (fun m => e m.2)]
    rw [← this]; exact hK
  · have g := of_decide_eq_false (show decide (n ≥ 65) = false from g)
    intro _
    refine ⟨false, .inl rfl, ?_⟩
    have : decide (65 ≤ n ∧ n ≤ 90) = false := decide_eq_false (fun m => by have := m.1; omega)
    rw [← this]; exact hK
theorem sml_test (n : Int) (h : H) (K : V → H → Prop) (hK : K (.test (decide (97 ≤ n ∧ n ≤ 122))) h) : SemF Try.prog 39 [.int .i32 n] h K := by
  refine SemF.test ?_
  refine enter tt_ok Try.func39 (nt := 9) (cd := body Try.f39) rfl rfl rfl rfl ?_
  intro _; refine ⟨fun g => ?_, fun g => ?_⟩
  · have g := of_decide_eq_true (show decide (n ≥ 97) = true from g)
    intro _
    refine ⟨_, .inr rfl, ?_⟩
    have : decide (97 ≤ n ∧ n ≤ 122) = decide (n ≤ 122) := by
      by_cases e : n ≤ 122
      · rw [decide_eq_true e, decide_eq_true (show 97 ≤ n ∧ n ≤ 122 from ⟨by omega, e⟩)]
      · rw [decide_eq_false e, decide_eq_false (fun m => e m.2)]
    rw [← this]; exact hK
  · have g := of_decide_eq_false (show decide (n ≥ 97) = false from g)
    intro _
    refine ⟨false, .inl rfl, ?_⟩
    have : decide (97 ≤ n ∧ n ≤ 122) = false := decide_eq_false (fun m => by have := m.1; omega)
    rw [← this]; exact hK
def sg (n : Int) : Bool := decide (32 < n ∧ n < 126 ∧ ¬ (97 ≤ n ∧ n ≤ 122) ∧ ¬ (65 ≤ n ∧ n ≤ 90) ∧ ¬ (48 ≤ n ∧ n ≤ 57))
theorem sign_test (n : Int) (h : H) (K : V → H → Prop) (hK : K (.test (sg n)) h) : SemF Try.prog 36 [.int .i32 n] h K := by
  refine SemF.test ?_
  refine enter tt_ok Try.func36 (nt := 24) (cd := body Try.f36) rfl rfl rfl rfl ?_
  have no : ∀ P : Prop, (sg n = true → P) → ¬ P → ∃ b, (V.bool false = .bool b ∨ V.bool false = .test b) ∧ K (.test b) h := fun P h1 h2 => ⟨false, .inl rfl, by
    have : sg n = false := by
      cases e : sg n with
      | false => rfl
      | true => exact absurd (h1 e) h2
    rw [← this]; exact hK⟩
  have un : sg n = true → (32 < n ∧ n < 126 ∧ ¬ (97 ≤ n ∧ n ≤ 122) ∧ ¬ (65 ≤ n ∧ n ≤ 90) ∧ ¬ (48 ≤ n ∧ n ≤ 57)) := fun h => of_decide_eq_true h
  intro _; refine ⟨fun g => ?_, fun g => ?_⟩
  rotate_left
  · have g := of_decide_eq_false (show decide (n > 32) = false from g)
    intro _
    exact no (32 < n) (fun h => (un h).1) (by omega)
  have g1 := of_decide_eq_true (show decide (n > 32) = true from g)
  intro _; refine ⟨fun g => ?_, fun g => ?_⟩
  rotate_left
  · have g := of_decide_eq_false (show decide (n < 126) = false from g)
    intro _
    exact no (n < 126) (fun h => (un h).2.1) (by omega)
  have g2 := of_decide_eq_true (show decide (n < 126) = true from g)
  intro _
  refine sml_test _ _ _ ?_
  intro _; refine ⟨fun g => ?_, fun g => ?_⟩
  rotate_left
  · have g : (!decide (97 ≤ n ∧ n ≤ 122)) = false := g
    rw [Bool.not_eq_false'] at g
    have g := of_decide_eq_true g
    intro _
    exact no (¬ (97 ≤ n ∧ n ≤ 122)) (fun h => (un h).2.2.1) (fun h => h g)
  have g : (!decide (97 ≤ n ∧ n ≤ 122)) = true := g
  rw [Bool.not_eq_true'] at g
  have g3 := of_decide_eq_false g
  intro _
  refine cap_test _ _ _ ?_
  intro _; refine ⟨fun g => ?_, fun g => ?_⟩
  rotate_left
  · have g : (!decide (65 ≤ n ∧ n ≤ 90)) = false := g
    rw [Bool.not_eq_false'] at g
    have g := of_decide_eq_true g
    intro _
    exact no (¬ (65 ≤ n ∧ n ≤ 90)) (fun h => (un h).2.2.2.1) (fun h => h g)
  have g : (!decide (65 ≤ n ∧ n ≤ 90)) = true := g
  rw [Bool.not_eq_true'] at g
  have g4 := of_decide_eq_false g
  intro _
  refine dig_test _ _ _ ?_
  intro _
  refine ⟨_, .inr rfl, ?_⟩
  have : sg n = !decide (48 ≤ n ∧ n ≤ 57) := by
    by_cases e : 48 ≤ n ∧ n ≤ 57
    · rw [decide_eq_true e]; exact decide_eq_false (fun h => h.2.2.2.2 e)
    · rw [decide_eq_false e]; exact decide_eq_true ⟨g1, g2, g3, g4, e⟩
  rw [← this]; exact hK
theorem class_ok (n : Int) : SemF Try.prog 31 [.int .i32 n] ⟨0, 0, []⟩ (fun v _ => v = .int .i64 (cl n) ∧ nameless v = true) := by
  refine enter tt_ok Try.func31 (nt := 35) (cd := body Try.f31) rfl rfl rfl rfl ?_
  intro _; refine ⟨fun g => ?_, fun g => ?_⟩
  · have g : (n == 126) = true := g
    have g : n = 126 := by simpa using g
    intro _
    refine ⟨?_, rfl⟩
    rw [show cl n = 6 by (unfold cl; repeat' split) <;> omega]
    rfl
  have g : (n == 126) = false := g
  have g6 : ¬ n = 126 := by simpa using g
  intro _
  refine sign_test _ _ _ ?_
  intro _; refine ⟨fun g => ?_, fun g => ?_⟩
  · have g := of_decide_eq_true (show decide (32 < n ∧ n < 126 ∧ ¬ (97 ≤ n ∧ n ≤ 122) ∧ ¬ (65 ≤ n ∧ n ≤ 90) ∧ ¬ (48 ≤ n ∧ n ≤ 57)) = true from g)
    intro _
    refine ⟨?_, rfl⟩
    rw [show cl n = 5 by (unfold cl; repeat' split) <;> omega]
    rfl
  have g5 := of_decide_eq_false (show decide (32 < n ∧ n < 126 ∧ ¬ (97 ≤ n ∧ n ≤ 122) ∧ ¬ (65 ≤ n ∧ n ≤ 90) ∧ ¬ (48 ≤ n ∧ n ≤ 57)) = false from g)
  intro _; refine ⟨fun g => ?_, fun g => ?_⟩
  · have g : (n == 32) = true := g
    have g : n = 32 := by simpa using g
    intro _
    refine ⟨?_, rfl⟩
    rw [show cl n = 4 by (unfold cl; repeat' split) <;> omega]
    rfl
  have g : (n == 32) = false := g
  have g4 : ¬ n = 32 := by simpa using g
  intro _
  refine dig_test _ _ _ ?_
  intro _; refine ⟨fun g => ?_, fun g => ?_⟩
  · have g := of_decide_eq_true (show decide (48 ≤ n ∧ n ≤ 57) = true from g)
    intro _
    refine ⟨?_, rfl⟩
    rw [show cl n = 3 by (unfold cl; repeat' split) <;> omega]
    rfl
  have g3 := of_decide_eq_false (show decide (48 ≤ n ∧ n ≤ 57) = false from g)
  intro _
  refine cap_test _ _ _ ?_
  intro _; refine ⟨fun g => ?_, fun g => ?_⟩
  · have g := of_decide_eq_true (show decide (65 ≤ n ∧ n ≤ 90) = true from g)
    intro _
    refine ⟨?_, rfl⟩
    rw [show cl n = 2 by (unfold cl; repeat' split) <;> omega]
    rfl
  have g2 := of_decide_eq_false (show decide (65 ≤ n ∧ n ≤ 90) = false from g)
  intro _
  refine sml_test _ _ _ ?_
  intro _; refine ⟨fun g => ?_, fun g => ?_⟩
  · have g := of_decide_eq_true (show decide (97 ≤ n ∧ n ≤ 122) = true from g)
    intro _
    refine ⟨?_, rfl⟩
    rw [show cl n = 1 by (unfold cl; repeat' split) <;> omega]
    rfl
  have g1 := of_decide_eq_false (show decide (97 ≤ n ∧ n ≤ 122) = false from g)
  intro _
  refine ⟨?_, rfl⟩
  rw [show cl n = 0 by (unfold cl; repeat' split) <;> omega]
/-! texts -/
def by' (s : List UInt8) (i : Nat) : Int := ((s.getD i 0).toNat : Int)
def VA (s : List UInt8) : Prop := s.length ≤ 2000 ∧ ∀ i, i < s.length → cl (by' s i) ≠ 0
instance decVA (s : List UInt8) : Decidable (VA s) := inferInstanceAs (Decidable (_ ∧ _))
theorem ba_get {s : List UInt8} {k : Nat} (h : k < s.length) : ∃ h' : k < (ByteArray.mk s.toArray).size, (ByteArray.mk s.toArray)[k]'h' = s[k] :=
  ⟨by simpa [ByteArray.size] using h, by show s.toArray[k]'_ = s[k]; simp⟩
theorem rune_low {s : List UInt8} {k : Nat} (h : k < s.length) (hb : by' s k < 128) : rune s k = ((s.getD k 0).toNat, 1) := by
  have e : s.getD k 0 = s[k] := by rw [List.getD_eq_getElem?_getD, List.getElem?_eq_getElem h]; rfl
  unfold by' at hb
  rw [e] at hb ⊢
  obtain ⟨h', e'⟩ := ba_get h
  have := Go.decode_ascii ⟨s.toArray⟩ k h' (by rw [e']; omega)
  rw [e'] at this
  exact this
theorem rune_high {s : List UInt8} {k : Nat} (h : k < s.length) (hb : 128 ≤ by' s k) : 128 ≤ (rune s k).1 := by
  have e : s.getD k 0 = s[k] := by rw [List.getD_eq_getElem?_getD, List.getElem?_eq_getElem h]; rfl
  unfold by' at hb
  rw [e] at hb
  obtain ⟨h', e'⟩ := ba_get h
  exact (Go.decode_high ⟨s.toArray⟩ k h' (by rw [e']; omega)).1
theorem by_succ {s : List UInt8} {k : Nat} (hm : ∀ i, i < k → cl (by' s i) ≠ 0) (h : cl (by' s k) ≠ 0) : ∀ i, i < k + 1 → cl (by' s i) ≠ 0 := fun i hi => by
  by_cases e : i = k
  · subst e; exact h
  · exact hm i (by omega)
theorem rvalid_ok (s : List UInt8) (hl : s.length ≤ 9223372036854775807) : SemF Try.prog 20 [.str s] ⟨0, 0, []⟩ (fun v _ => v = .test (decide (VA s)) ∧ nameless v = true) := by
  refine SemF.test ?_
  refine enter tt_ok Try.func20 (nt := 18) (cd := body Try.f20) rfl rfl rfl rfl ?_
  intro _
  refine loop2 tt_ok [3] [] 0 (fun k : { k : Nat // k ≤ s.length ∧ ∀ i, i < k → cl (by' s i) ≠ 0 } => [(3, .int .i64 (k : Nat))]) (fun _ => []) (fun k => s.length - k) ⟨0, by omega, fun i h => by omega⟩ ?_
  intro _
  refine ⟨⟨th [] 0, rfl, rfl, rfl, rfl, rfl, rfl, ?_, ?_⟩, ?_⟩
  · (repeat' first | exact trivial | exact rfl | refine And.intro ?_ ?_)
  · (repeat' first | exact trivial | exact rfl | refine And.intro ?_ ?_)
  intro ⟨k, hk, hmk⟩
  intro _; refine ⟨fun g => ?_, fun g => ?_⟩
  rotate_left
  · have hkl := of_decide_eq_false (show decide ((k : Int) < (s.length : Int)) = false from g)
    have hkl : k = s.length := by omega
    subst hkl
    intro _
    refine ⟨_, .inr rfl, ?_, rfl⟩
    by_cases e : s.length ≤ 2000
    · rw [decide_eq_true (show (s.length : Int) ≤ 2000 by omega), decide_eq_true (show VA s from ⟨e, hmk⟩)]
    · rw [decide_eq_false (show ¬ (s.length : Int) ≤ 2000 by omega), decide_eq_false (fun h : VA s => e h.1)]
  have hkl := of_decide_eq_true (show decide ((k : Int) < (s.length : Int)) = true from g)
  intro _; refine ⟨show 0 ≤ (k : Int) ∧ (k : Int) < (s.length : Int) by omega, ?_⟩
  intro _
  refine call_pure [] (rclass_ok (by' s k)) rfl rfl rfl ?_ ?_ ?_
  · (repeat' first | exact trivial | exact rfl | refine And.intro ?_ ?_)
  · (repeat' first | exact trivial | exact rfl | refine And.intro ?_ ?_)
  intro v hv _
  subst hv
  intro _; refine ⟨fun g => ?_, fun g => ?_⟩
  · have g : (cl (by' s k) == 0) = true := g
    have g : cl (by' s k) = 0 := by simpa using g
    intro _
    exact ⟨false, .inl rfl, by rw [decide_eq_false (fun h : VA s => h.2 k (by omega) g)], rfl⟩
  have g : (cl (by' s k) == 0) = false := g
  have g : cl (by' s k) ≠ 0 := by simpa using g
  refine ⟨⟨k + 1, by omega, by_succ hmk g⟩, by simp; omega, th [] 0, rfl, rfl, rfl, rfl, rfl, rfl, ?_, ?_⟩
  · (repeat' first | exact trivial | exact rfl | refine And.intro ?_ ?_)
    exact (wrap_nat k (by omega)).symm
  · (repeat' first | exact trivial | exact rfl | refine And.intro ?_ ?_)
theorem valid_ok (s : List UInt8) (hl : s.length ≤ 9223372036854775807) : SemF Try.prog 24 [.str s] ⟨0, 0, []⟩ (fun v _ => v = .test (decide (VA s)) ∧ nameless v = true) := by
  refine SemF.test ?_
  refine enter tt_ok Try.func24 (nt := 16) (cd := body Try.f24) rfl rfl rfl rfl ?_
  intro _; refine ⟨fun g => ?_, fun g => ?_⟩
  · have g := of_decide_eq_true (show decide ((s.length : Int) > 2000) = true from g)
    intro _
    exact ⟨false, .inl rfl, by rw [decide_eq_false (fun h : VA s => by have := h.1; omega)], rfl⟩
  have g2 := of_decide_eq_false (show decide ((s.length : Int) > 2000) = false from g)
  intro _
  refine loop2 tt_ok [] [0] 1 (fun k : { k : Nat // k ≤ s.length ∧ ∀ i, i < k → cl (by' s i) ≠ 0 } => []) (fun k => [(0, .sit s (k : Nat))]) (fun k => s.length - k) ⟨0, by omega, fun i h => by omega⟩ ?_
  intro _
  refine ⟨⟨th [] 1, rfl, rfl, rfl, rfl, rfl, rfl, ?_, ?_⟩, ?_⟩
  · (repeat' first | exact trivial | exact rfl | refine And.intro ?_ ?_)
  · (repeat' first | exact trivial | exact rfl | refine And.intro ?_ ?_)
  intro ⟨k, hk, hmk⟩
  intro _; refine ⟨fun g => ?_, fun g => ?_⟩
  rotate_left
  · have hkl := of_decide_eq_false (show decide (k < s.length) = false from g)
    have hkl : k = s.length := by omega
    subst hkl
    intro _
    exact ⟨true, .inl rfl, by rw [decide_eq_true (show VA s from ⟨by omega, hmk⟩)], rfl⟩
  have hkl := of_decide_eq_true (show decide (k < s.length) = true from g)
  intro _
  refine call_pure [] (class_ok ((rune s k).1 : Int)) rfl rfl rfl ?_ ?_ ?_
  · (repeat' first | exact trivial | exact rfl | refine And.intro ?_ ?_)
  · (repeat' first | exact trivial | exact rfl | refine And.intro ?_ ?_)
  intro v hv _
  subst hv
  intro _; refine ⟨fun g => ?_, fun g => ?_⟩
  · have g : (cl ((rune s k).1 : Int) == 0) = true := g
    have g : cl ((rune s k).1 : Int) = 0 := by simpa using g
    intro _
    refine ⟨false, .inl rfl, ?_, rfl⟩
    rw [decide_eq_false (fun h : VA s => ?_)]
    refine h.2 k hkl ?_
    by_cases hb : by' s k < 128
    · rw [rune_low hkl hb] at g; exact g
    · exact cl_high (by omega)
  have g : (cl ((rune s k).1 : Int) == 0) = false := g
  have g : cl ((rune s k).1 : Int) ≠ 0 := by simpa using g
  have hb : by' s k < 128 := by
    rcases Int.lt_or_le (by' s k) 128 with h | h
    · exact h
    · exact absurd (cl_high (show (128 : Int) ≤ (rune s k).1 by have := rune_high hkl h; omega)) g
  have er := rune_low hkl hb
  refine ⟨⟨k + 1, by omega, by_succ hmk (by rw [er] at g; exact g)⟩, by simp; omega, th [] 1, rfl, rfl, rfl, rfl, rfl, rfl, ?_, ?_⟩
  · (repeat' first | exact trivial | exact rfl | refine And.intro ?_ ?_)
  · (repeat' first | exact trivial | exact rfl | refine And.intro ?_ ?_)
    show k + 1 = k + (rune s k).2
    rw [er]
theorem by_bd (s : List UInt8) (i : Nat) : 0 ≤ by' s i ∧ by' s i ≤ 255 := by
  unfold by'
  have := (s.getD i 0).toNat_lt
  omega
theorem Class_ok (n : Int) (h : 0 ≤ n ∧ n ≤ 255) : SemF Try.prog 40 [.int .u8 n] ⟨0, 0, []⟩ (fun v _ => v = .int .i64 (cl n) ∧ nameless v = true) := by
  refine enter tt_ok Try.func40 (nt := 6) (cd := body Try.f40) rfl rfl rfl rfl ?_
  intro _
  have e : IntKind.i32.wrap n = n := by
    rw [IntKind.wrap_i32]; omega
  refine call_pure [] (class_ok (IntKind.i32.wrap n)) rfl rfl rfl ?_ ?_ ?_
  · (repeat' first | exact trivial | exact rfl | refine And.intro ?_ ?_)
  · (repeat' first | exact trivial | exact rfl | refine And.intro ?_ ?_)
  intro v hv _
  subst hv
  intro _
  exact ⟨by rw [e], rfl⟩
theorem cl_nn (n : Int) : 0 ≤ cl n := by unfold cl; (repeat' split) <;> omega
theorem isdig_ok (n : Int) (h : 0 ≤ n ∧ n ≤ 255) : SemF Try.prog 33 [.int .u8 n] ⟨0, 0, []⟩ (fun v _ => v = .test (cl n == 3) ∧ nameless v = true) := by
  refine enter tt_ok Try.func33 (nt := 6) (cd := body Try.f33) rfl rfl rfl rfl ?_
  intro _
  refine call_pure [] (Class_ok n h) rfl rfl rfl ?_ ?_ ?_
  · (repeat' first | exact trivial | exact rfl | refine And.intro ?_ ?_)
  · (repeat' first | exact trivial | exact rfl | refine And.intro ?_ ?_)
  intro v hv _
  subst hv
  intro _
  exact ⟨rfl, rfl⟩
def gt (l : List Int) (i : Nat) : Int := l.getD i 0
theorem gt_set {l : List Int} {k : Nat} (h : k < l.length) (v : Int) (i : Nat) : gt (l.set k v) i = if i = k then v else gt l i := by
  unfold gt
  rw [List.getD_eq_getElem?_getD, List.getElem?_set]
  by_cases e : k = i
  · subst e; rw [if_pos rfl, if_pos h, if_pos rfl]; rfl
  · rw [if_neg e, if_neg (fun q => e q.symm), List.getD_eq_getElem?_getD]
def mk (n : Nat) (f : Nat → Int) : List Int := (List.range n).map f
theorem mk_len (n : Nat) (f : Nat → Int) : (mk n f).length = n := by simp [mk]
theorem gt_mk {n i : Nat} (f : Nat → Int) (h : i < n) : gt (mk n f) i = f i := by
  simp [gt, mk, List.getD_eq_getElem?_getD, List.getElem?_range h]
theorem mk_of {l : List Int} {n : Nat} {f : Nat → Int} (hn : l.length = n) (h : ∀ i, i < n → gt l i = f i) : l = mk n f := by
  apply List.ext_getElem?
  intro i
  by_cases hi : i < n
  · have h1 := h i hi
    have h2 := gt_mk f hi
    unfold gt at h1 h2
    rw [List.getD_eq_getElem?_getD] at h1 h2
    rw [List.getElem?_eq_getElem (by omega)] at h1 ⊢
    rw [List.getElem?_eq_getElem (by rw [mk_len]; exact hi)] at h2 ⊢
    simp only [Option.getD_some] at h1 h2
    rw [h1, h2]
  · rw [List.getElem?_eq_none (by omega), List.getElem?_eq_none (by rw [mk_len]; omega)]
/-! runs -/
def dn (P : Nat → Bool) : Nat → Nat
  | 0 => 0
  | k + 1 => if P k = true then dn P k else k + 1
def upF (P : Nat → Bool) : Nat → Nat → Nat
  | 0, k => k
  | f + 1, k => if P k = true then upF P f (k + 1) else k
def up (P : Nat → Bool) (n k : Nat) : Nat := upF P (n - k) k
structure Run (P : Nat → Bool) (n a b : Nat) : Prop where
  ab : a ≤ b
  bn : b ≤ n
  all : ∀ i, a ≤ i → i < b → P i = true
  lo : a = 0 ∨ P (a - 1) = false
  hi : b = n ∨ P b = false
theorem dn_run {P : Nat → Bool} {n a b : Nat} (h : Run P n a b) : ∀ k, a ≤ k → k ≤ b → dn P k = a
  | 0, h1, _ => by simp only [dn]; omega
  | k + 1, h1, h2 => by
    simp only [dn]
    by_cases e : a = k + 1
    · have := h.lo
      rw [e] at this
      rcases this with h3 | h3
      · omega
      · rw [if_neg (by rw [show k + 1 - 1 = k by omega] at h3; rw [h3]; decide)]; exact e.symm
    · rw [if_pos (h.all k (by omega) (by omega))]; exact dn_run h k (by omega) (by omega)
theorem up_run {P : Nat → Bool} {n a b : Nat} (h : Run P n a b) : ∀ f k, a ≤ k → k ≤ b → f = n - k → upF P f k = b
  | 0, k, h1, h2, h3 => by have := h.bn; simp only [upF]; omega
  | f + 1, k, h1, h2, h3 => by
    simp only [upF]
    by_cases e : k = b
    · rcases h.hi with h4 | h4
      · omega
      · rw [if_neg (by rw [e, h4]; decide)]; exact e
    · rw [if_pos (h.all k h1 (by omega))]; exact up_run h f (k + 1) (by omega) (by omega) (by omega)
def rv (P : Nat → Bool) (n k : Nat) : Nat := if P k = true then dn P k + up P n k - 1 - k else k
theorem rv_run {P : Nat → Bool} {n a b k : Nat} (h : Run P n a b) (h1 : a ≤ k) (h2 : k < b) : rv P n k = a + b - 1 - k := by
  unfold rv up
  rw [if_pos (h.all k h1 h2), dn_run h k h1 (by omega), up_run h _ k h1 (by omega) rfl]
theorem rv_out {P : Nat → Bool} {n k : Nat} (h : P k = false) : rv P n k = k := by
  unfold rv; rw [if_neg (by rw [h]; decide)]
theorem dn_spec (P : Nat → Bool) : ∀ k, dn P k ≤ k ∧ (∀ i, dn P k ≤ i → i < k → P i = true) ∧ (dn P k = 0 ∨ P (dn P k - 1) = false)
  | 0 => ⟨by simp [dn], fun i _ h => by omega, .inl rfl⟩
  | k + 1 => by
    simp only [dn]
    by_cases e : P k = true
    · rw [if_pos e]
      obtain ⟨h1, h2, h3⟩ := dn_spec P k
      refine ⟨by omega, fun i h4 h5 => ?_, h3⟩
      by_cases e2 : i = k
      · rw [e2]; exact e
      · exact h2 i h4 (by omega)
    · rw [if_neg e]
      exact ⟨Nat.le_refl _, fun i h4 h5 => by omega, .inr (by rw [show k + 1 - 1 = k by omega]; simpa using e)⟩
theorem up_spec (P : Nat → Bool) (n : Nat) : ∀ f k, k ≤ n → f = n - k → k ≤ upF P f k ∧ upF P f k ≤ n ∧ (∀ i, k ≤ i → i < upF P f k → P i = true) ∧ (upF P f k = n ∨ P (upF P f k) = false)
  | 0, k, h1, h2 => by simp only [upF]; exact ⟨Nat.le_refl _, h1, fun i _ h => by omega, .inl (by omega)⟩
  | f + 1, k, h1, h2 => by
    simp only [upF]
    by_cases e : P k = true
    · rw [if_pos e]
      obtain ⟨h3, h4, h5, h6⟩ := up_spec P n f (k + 1) (by omega) (by omega)
      refine ⟨by omega, h4, fun i h7 h8 => ?_, h6⟩
      by_cases e2 : i = k
      · rw [e2]; exact e
      · exact h5 i (by omega) h8
    · rw [if_neg e]
      exact ⟨Nat.le_refl _, h1, fun i _ h => by omega, .inr (by simpa using e)⟩
theorem run_ex {P : Nat → Bool} {n k : Nat} (hk : k < n) (h : P k = true) : ∃ a b, Run P n a b ∧ a ≤ k ∧ k < b := by
  obtain ⟨h1, h2, h3⟩ := dn_spec P k
  obtain ⟨h4, h5, h6, h7⟩ := up_spec P n (n - k) k (by omega) rfl
  have h8 : k < upF P (n - k) k := by
    rcases h7 with h7 | h7
    · omega
    · rcases Nat.lt_or_ge k (upF P (n - k) k) with h9 | h9
      · exact h9
      · have : upF P (n - k) k = k := by omega
        rw [this, h] at h7; cases h7
  refine ⟨dn P k, upF P (n - k) k, ⟨by omega, h5, fun i h9 h10 => ?_, h3, h7⟩, h1, h8⟩
  rcases Nat.lt_or_ge i k with h | h
  · exact h2 i h9 h
  · exact h6 i h h10
theorem run_congr {P Q : Nat → Bool} {n a b : Nat} (h : Run P n a b) (e : ∀ i, i < n → P i = Q i) : Run Q n a b := by
  obtain ⟨h1, h2, h3, h4, h5⟩ := h
  refine ⟨h1, h2, fun i h6 h7 => by rw [← e i (by omega)]; exact h3 i h6 h7, ?_, ?_⟩
  · rcases h4 with h4 | h4
    · exact .inl h4
    · by_cases ha : a = 0
      · exact .inl ha
      · exact .inr (by rw [← e _ (by omega)]; exact h4)
  · rcases h5 with h5 | h5
    · exact .inl h5
    · by_cases hb : b = n
      · exact .inl hb
      · exact .inr (by rw [← e _ (by omega)]; exact h5)
theorem rv_congr {P Q : Nat → Bool} {n k : Nat} (hk : k < n) (e : ∀ i, i < n → P i = Q i) : rv P n k = rv Q n k := by
  cases h : P k with
  | false => rw [rv_out h, rv_out (by rw [← e k hk]; exact h)]
  | true =>
    obtain ⟨a, b, r, h1, h2⟩ := run_ex hk h
    rw [rv_run r h1 h2, rv_run (run_congr r e) h1 h2]
theorem rv_in {P : Nat → Bool} {n k : Nat} (hk : k < n) : rv P n k < n ∧ P (rv P n k) = P k ∧ rv P n (rv P n k) = k := by
  cases h : P k with
  | false => rw [rv_out h]; exact ⟨hk, h, rv_out h⟩
  | true =>
    obtain ⟨a, b, r, h1, h2⟩ := run_ex hk h
    rw [rv_run r h1 h2]
    have := r.bn
    exact ⟨by omega, r.all _ (by omega) (by omega), by rw [rv_run r (by omega) (by omega)]; omega⟩
theorem rv_step {P : Nat → Bool} {n i : Nat} (h0 : 0 < i) (hi : i < n) (h1 : P i = true) (h2 : P (i - 1) = true) : rv P n (i - 1) = rv P n i + 1 := by
  obtain ⟨a, b, r, h3, h4⟩ := run_ex (P := P) (n := n) (k := i - 1) (by omega) h2
  have h5 : i < b := by
    rcases r.hi with h | h
    · omega
    · rcases Nat.lt_or_ge i b with h6 | h6
      · exact h6
      · have : b = i := by omega
        rw [this, h1] at h; cases h
  rw [rv_run r (by omega) h5, rv_run r h3 h4]
  omega
theorem rv_full {P : Nat → Bool} {n k : Nat} (hk : k < n) (h : ∀ i, i < n → P i = true) : rv P n k = n - 1 - k := by
  rw [rv_run (a := 0) (b := n) ⟨by omega, Nat.le_refl _, fun i _ h1 => h i h1, .inl rfl, .inl rfl⟩ (by omega) hk]
  omega
theorem rv_none {P : Nat → Bool} {n k : Nat} (hk : k < n) (h : ∀ i, i < n → P i = false) : rv P n k = k := rv_out (h k hk)
/-- what a run of the first part is in both -/
theorem rv_left {P Q : Nat → Bool} {n m k : Nat} (hk : k < n) (hnm : n < m) (e : ∀ i, i < n → P i = Q i) (hb : P n = false ∨ Q (n - 1) = false) : rv P m k = rv Q n k := by
  cases h : Q k with
  | false => rw [rv_out h, rv_out (by rw [e k hk]; exact h)]
  | true =>
    obtain ⟨a, b, r, h1, h2⟩ := run_ex hk h
    have hr : Run P m a b := by
      refine ⟨r.ab, by have := r.bn; omega, fun i h3 h4 => by rw [e i (by have := r.bn; omega)]; exact r.all i h3 h4, ?_, ?_⟩
      · rcases r.lo with h3 | h3
        · exact .inl h3
        · exact .inr (by rw [e _ (by omega)]; exact h3)
      · rcases r.hi with h3 | h3
        · rcases hb with h4 | h4
          · exact .inr (by rw [h3]; exact h4)
          · have := r.all (n - 1) (by omega) (by omega)
            rw [this] at h4; cases h4
        · by_cases hb : b = n
          · rcases ‹P n = false ∨ Q (n - 1) = false› with h4 | h4
            · exact .inr (by rw [hb]; exact h4)
            · have := r.all (n - 1) (by omega) (by omega)
              rw [this] at h4; cases h4
          · exact .inr (by have := r.bn; rw [e _ (by omega)]; exact h3)
    rw [rv_run r h1 h2, rv_run hr h1 h2]
theorem rv_right {P Q : Nat → Bool} {n m k : Nat} (hk : k < m) (hn : 0 < n) (e : ∀ i, i < m → P (n + i) = Q i) (hb : P (n - 1) = false ∨ Q 0 = false) : rv P (n + m) (n + k) = n + rv Q m k := by
  cases h : Q k with
  | false => rw [rv_out h, rv_out (by rw [e k hk]; exact h)]
  | true =>
    obtain ⟨a, b, r, h1, h2⟩ := run_ex hk h
    have hbn := r.bn
    have hr : Run P (n + m) (n + a) (n + b) := by
      refine ⟨by omega, by omega, fun i h3 h4 => ?_, ?_, ?_⟩
      · have := e (i - n) (by omega)
        rw [show n + (i - n) = i by omega] at this
        rw [this]; exact r.all _ (by omega) (by omega)
      · by_cases ha : a = 0
        · rcases hb with h4 | h4
          · exact .inr (by rw [ha]; exact h4)
          · have := r.all 0 (by omega) (by omega)
            rw [this] at h4; cases h4
        · rcases r.lo with h3 | h3
          · exact absurd h3 ha
          · refine .inr ?_
            rw [show n + a - 1 = n + (a - 1) by omega, e _ (by omega)]; exact h3
      · rcases r.hi with h3 | h3
        · exact .inl (by omega)
        · by_cases hb : b = m
          · exact .inl (by omega)
          · exact .inr (by rw [e _ (by omega)]; exact h3)
    rw [rv_run r h1 h2, rv_run hr (by omega) (by omega)]
    omega
/-! directions and levels -/
def lts (c : Nat → Int) (dir : Int) : Nat → Int
  | 0 => dir
  | k + 1 => if c k = 1 then 0 else if c k = 2 then 1 else lts c dir k
def rwd (c : Nat → Int) (dir : Int) (k : Nat) : Int := if c k = 1 then 0 else if c k = 2 then 1 else if c k = 3 then lts c dir k else -1
def Nt (c : Nat → Int) (k : Nat) : Bool := !(c k == 1 || c k == 2 || c k == 3)
def dval (c : Nat → Int) (dir : Int) (n a b : Nat) : Int := if (if 0 < a then rwd c dir (a - 1) else dir) = (if b < n then rwd c dir b else dir) then (if 0 < a then rwd c dir (a - 1) else dir) else dir
def dd (c : Nat → Int) (dir : Int) (n k : Nat) : Int := if Nt c k = true then dval c dir n (dn (Nt c) k) (up (Nt c) n k) else rwd c dir k
def lev (c : Nat → Int) (dir : Int) (n k : Nat) : Int := if c k = 3 then (if dir = 1 then 2 else if dd c dir n k = 1 then 2 else 0) else if dd c dir n k = 1 then 1 else if dir = 1 then 2 else 0
def PL (c : Nat → Int) (dir : Int) (n : Nat) (t : Int) (k : Nat) : Bool := decide (lev c dir n k ≥ t)
def od (c : Nat → Int) (dir : Int) (n k : Nat) : Nat := rv (PL c dir n 2) n (rv (PL c dir n 1) n k)
/-- where an index is seen -/
def ps (c : Nat → Int) (dir : Int) (n k : Nat) : Nat := rv (PL c dir n 1) n (rv (PL c dir n 2) n k)
theorem nt_iff {c : Nat → Int} {k : Nat} : Nt c k = true ↔ c k ≠ 1 ∧ c k ≠ 2 ∧ c k ≠ 3 := by
  simp [Nt, and_assoc]
theorem nt_not {c : Nat → Int} {k : Nat} : Nt c k = false ↔ c k = 1 ∨ c k = 2 ∨ c k = 3 := by
  have := @nt_iff c k
  cases h : Nt c k with
  | false =>
    rw [h] at this
    refine ⟨fun _ => ?_, fun _ => rfl⟩
    by_cases h1 : c k = 1
    · exact .inl h1
    by_cases h2 : c k = 2
    · exact .inr (.inl h2)
    by_cases h3 : c k = 3
    · exact .inr (.inr h3)
    · exact absurd (this.2 ⟨h1, h2, h3⟩) (by decide)
  | true =>
    have h := this.1 h
    exact ⟨fun h => (by cases h), fun h => (by omega)⟩
theorem lts01 {c : Nat → Int} {dir : Int} (hd : dir = 0 ∨ dir = 1) : ∀ k, lts c dir k = 0 ∨ lts c dir k = 1
  | 0 => hd
  | k + 1 => by
    simp only [lts]
    split
    · exact .inl rfl
    · split
      · exact .inr rfl
      · exact lts01 hd k
theorem rwd01 {c : Nat → Int} {dir : Int} {k : Nat} (hd : dir = 0 ∨ dir = 1) (h : Nt c k = false) : rwd c dir k = 0 ∨ rwd c dir k = 1 := by
  have h := nt_not.1 h
  unfold rwd
  split
  · exact .inl rfl
  · split
    · exact .inr rfl
    · split
      · exact lts01 hd k
      · omega
theorem rwd_nt {c : Nat → Int} {dir : Int} {k : Nat} (h : Nt c k = true) : rwd c dir k = -1 := by
  have h := nt_iff.1 h
  unfold rwd
  rw [if_neg h.1, if_neg h.2.1, if_neg h.2.2]
theorem dd_run {c : Nat → Int} {dir : Int} {n a b k : Nat} (r : Run (Nt c) n a b) (h1 : a ≤ k) (h2 : k < b) : dd c dir n k = dval c dir n a b := by
  unfold dd up
  rw [if_pos (r.all k h1 h2), dn_run r k h1 (by omega), up_run r _ k h1 (by omega) rfl]
theorem dd_out {c : Nat → Int} {dir : Int} {n k : Nat} (h : Nt c k = false) : dd c dir n k = rwd c dir k := by
  unfold dd; rw [if_neg (by rw [h]; decide)]
theorem dval01 {c : Nat → Int} {dir : Int} {n a b : Nat} (hd : dir = 0 ∨ dir = 1) (r : Run (Nt c) n a b) : dval c dir n a b = 0 ∨ dval c dir n a b = 1 := by
  have hb : (if 0 < a then rwd c dir (a - 1) else dir) = 0 ∨ (if 0 < a then rwd c dir (a - 1) else dir) = 1 := by
    split
    · rcases r.lo with h | h
      · omega
      · exact rwd01 hd h
    · exact hd
  unfold dval
  by_cases e : (if 0 < a then rwd c dir (a - 1) else dir) = (if b < n then rwd c dir b else dir)
  · rw [if_pos e]; exact hb
  · rw [if_neg e]; exact hd
theorem dd01 {c : Nat → Int} {dir : Int} {n k : Nat} (hd : dir = 0 ∨ dir = 1) (hk : k < n) : dd c dir n k = 0 ∨ dd c dir n k = 1 := by
  cases h : Nt c k with
  | false => rw [dd_out h]; exact rwd01 hd h
  | true =>
    obtain ⟨a, b, r, h1, h2⟩ := run_ex hk h
    rw [dd_run r h1 h2]; exact dval01 hd r
theorem PL_le {c : Nat → Int} {dir : Int} {n k : Nat} (h : PL c dir n 2 k = true) : PL c dir n 1 k = true := by
  have := of_decide_eq_true h
  exact decide_eq_true (by omega)
theorem od_lt {c : Nat → Int} {dir : Int} {n k : Nat} (hk : k < n) : od c dir n k < n := (rv_in (rv_in hk).1).1
theorem ps_lt {c : Nat → Int} {dir : Int} {n k : Nat} (hk : k < n) : ps c dir n k < n := (rv_in (rv_in hk).1).1
theorem od_ps {c : Nat → Int} {dir : Int} {n k : Nat} (hk : k < n) : od c dir n (ps c dir n k) = k := by
  unfold od ps
  rw [(rv_in (rv_in hk).1).2.2, (rv_in hk).2.2]
theorem ps_od {c : Nat → Int} {dir : Int} {n k : Nat} (hk : k < n) : ps c dir n (od c dir n k) = k := by
  unfold od ps
  rw [(rv_in (rv_in hk).1).2.2, (rv_in hk).2.2]
/-- a run of one level is turned as that of the other one: the runs of 2 lie in those of 1 -/
theorem PL_rv {c : Nat → Int} {dir : Int} {n k : Nat} (hk : k < n) : PL c dir n 1 (rv (PL c dir n 2) n k) = PL c dir n 1 k := by
  cases h : PL c dir n 2 k with
  | false => rw [rv_out h]
  | true => rw [PL_le h, PL_le (k := rv (PL c dir n 2) n k) (by rw [(rv_in (P := PL c dir n 2) hk).2.1]; exact h)]
/-- the classes of a line's bytes -/
abbrev cc (s : List UInt8) (i : Nat) : Int := cl (by' s i)
abbrev J1 (s : List UInt8) (dir : Int) := { p : Nat × Int × List Int // p.1 ≤ s.length ∧ p.2.1 = lts (cc s) dir p.1 ∧ p.2.2.length = s.length ∧ ∀ i, i < p.1 → gt p.2.2 i = rwd (cc s) dir i }
abbrev J2 (s : List UInt8) (dir : Int) := { p : Nat × List Int // p.1 ≤ s.length + 1 ∧ p.2.length = s.length ∧ (∀ i, i < s.length → i < p.1 → gt p.2 i = dd (cc s) dir s.length i) ∧ (∀ i, i < s.length → p.1 ≤ i → gt p.2 i = rwd (cc s) dir i) ∧ (p.1 ≤ s.length → p.1 = 0 ∨ Nt (cc s) (p.1 - 1) = false) }
abbrev J3 (s : List UInt8) (dir : Int) (fr at' : Nat) := { q : Nat × List Int // fr ≤ q.1 ∧ q.1 ≤ at' ∧ q.2.length = s.length ∧ (∀ i, i < s.length → i < q.1 → gt q.2 i = dd (cc s) dir s.length i) ∧ (∀ i, i < s.length → q.1 ≤ i → gt q.2 i = rwd (cc s) dir i) }
theorem j1_set {s : List UInt8} {dir : Int} {l : List Int} {k : Nat} {v : Int} (hk : k < l.length) (hm : ∀ i, i < k → gt l i = rwd (cc s) dir i) (h : v = rwd (cc s) dir k) : ∀ i, i < k + 1 → gt (l.set k v) i = rwd (cc s) dir i := fun i hi => by
  rw [gt_set hk]
  by_cases e : i = k
  · rw [if_pos e, e]; exact h
  · rw [if_neg e]; exact hm i (by omega)
theorem j3_set {s : List UInt8} {dir : Int} {l' : List Int} {fr at' k : Nat} (r : Run (Nt (cc s)) s.length fr at') (hfk : fr ≤ k) (hkl : (k : Int) < (at' : Int)) (hn : l'.length = s.length) (hm : ∀ i, i < s.length → i < k → gt l' i = dd (cc s) dir s.length i) (hz : ∀ i, i < s.length → k ≤ i → gt l' i = rwd (cc s) dir i) :
    fr ≤ k + 1 ∧ k + 1 ≤ at' ∧ (l'.set k (dval (cc s) dir s.length fr at')).length = s.length ∧ (∀ i, i < s.length → i < k + 1 → gt (l'.set k (dval (cc s) dir s.length fr at')) i = dd (cc s) dir s.length i) ∧ (∀ i, i < s.length → k + 1 ≤ i → gt (l'.set k (dval (cc s) dir s.length fr at')) i = rwd (cc s) dir i) := by
  have hk : k < l'.length := by have := r.bn; omega
  refine ⟨by omega, by omega, by simp [hn], fun i hi h2 => ?_, fun i hi h2 => ?_⟩
  · rw [gt_set hk]
    by_cases e : i = k
    · rw [if_pos e, e]; exact (dd_run r hfk (by omega)).symm
    · rw [if_neg e]; exact hm i hi (by omega)
  · rw [gt_set hk, if_neg (by omega)]; exact hz i hi (by omega)
theorem j3_end {s : List UInt8} {dir : Int} {l' : List Int} {at' : Nat} (hat : at' ≤ s.length) (hstop : at' < s.length → Nt (cc s) at' = false) (hn : l'.length = s.length) (hm : ∀ i, i < s.length → i < at' → gt l' i = dd (cc s) dir s.length i) (hz : ∀ i, i < s.length → at' ≤ i → gt l' i = rwd (cc s) dir i) :
    at' + 1 ≤ s.length + 1 ∧ l'.length = s.length ∧ (∀ i, i < s.length → i < at' + 1 → gt l' i = dd (cc s) dir s.length i) ∧ (∀ i, i < s.length → at' + 1 ≤ i → gt l' i = rwd (cc s) dir i) ∧ (at' + 1 ≤ s.length → at' + 1 = 0 ∨ Nt (cc s) (at' + 1 - 1) = false) := by
  refine ⟨by omega, hn, fun i hi h2 => ?_, fun i hi h2 => hz i hi (by omega), fun h => .inr (hstop (by omega))⟩
  by_cases e : i = at'
  · rw [e, dd_out (hstop (by omega))]; exact hz at' (by omega) (Nat.le_refl _)
  · exact hm i hi (by omega)
def DL (s : List UInt8) (dir : Int) : List Int := mk s.length (dd (cc s) dir s.length)
set_option maxHeartbeats 4000000 in
theorem dirs_ok (s : List UInt8) (dir : Int) (hV : VA s) (hd : dir = 0 ∨ dir = 1) : SemF Try.prog 32 [.str s, .int .i64 dir] ⟨0, 0, []⟩ (fun v h' => v = .grw 0 (DL s dir).length ∧ h' = ⟨1, 0, [(0, .arr [.int .i64] .own (.ints (DL s dir)))]⟩) := by
  have hl := hV.1
  refine SemF.ret ?_
  refine enter tt_ok Try.func32 (nt := 89) (cd := body Try.f32) rfl rfl rfl rfl ?_
  intro _; refine ⟨⟨by omega, by omega, by rw [Int.toNat_natCast]; omega⟩, ?_⟩
  intro _; refine ⟨rfl, ?_⟩
  intro _
  refine loop2 tt_ok [20, 6] [1] 3 (fun k : J1 s dir => [(20, .int .i64 (k.1.1 : Nat)), (6, .int .i64 k.1.2.1)]) (fun k => [(1, .arr [.int .i64] .own (.ints k.1.2.2))]) (fun k => s.length - k.1.1) ⟨(0, dir, List.replicate s.length 0), by omega, rfl, by simp, fun i h => by simp only [] at h; omega⟩ ?_
  intro _
  refine ⟨⟨th [] 3, rfl, rfl, rfl, rfl, rfl, rfl, ?_, ?_⟩, ?_⟩
  · (repeat' first | exact trivial | exact rfl | refine And.intro ?_ ?_)
  · (repeat' first | exact trivial | exact rfl | refine And.intro ?_ ?_)
  intro ⟨⟨k, lt, l⟩, hk, hlt, hn, hm⟩
  simp only [] at hk hlt hn hm
  intro _; refine ⟨fun g => ?_, fun g => ?_⟩
  · have hkl := of_decide_eq_true (show decide ((k : Int) < (s.length : Int)) = true from g)
    intro _; refine ⟨show 0 ≤ (k : Int) ∧ (k : Int) < (s.length : Int) by omega, ?_⟩
    intro _
    refine call_pure [] (Class_ok (by' s k) (by_bd s k)) rfl rfl rfl ?_ ?_ ?_
    · (repeat' first | exact trivial | exact rfl | refine And.intro ?_ ?_)
    · (repeat' first | exact trivial | exact rfl | refine And.intro ?_ ?_)
    intro v hv _
    subst hv
    intro _; refine ⟨fun g => ?_, fun g => ?_⟩
    · have g : (cl (by' s k) == 1) = true := g
      have g1 : cl (by' s k) = 1 := by simpa using g
      have hw : IntKind.i64.wrap (cl (by' s k) - 1) = lts (cc s) dir (k + 1) := by
        rw [g1]; show _ = (if cc s k = 1 then 0 else if cc s k = 2 then 1 else lts (cc s) dir k); rw [if_pos g1]; rfl
      have hr : IntKind.i64.wrap (cl (by' s k) - 1) = rwd (cc s) dir k := by
        rw [g1]; unfold rwd; rw [if_pos g1]; rfl
      intro _; refine ⟨show 0 ≤ (k : Int) ∧ (k : Int) < (s.length : Int) by omega, ?_⟩
      intro _; refine ⟨show (k : Int).toNat < l.length by omega, ?_⟩
      refine ⟨⟨(k + 1, IntKind.i64.wrap (cl (by' s k) - 1), l.set k (IntKind.i64.wrap (cl (by' s k) - 1))), by simp only []; omega, hw, by simp [hn], j1_set (by omega) hm hr⟩, by simp only []; omega, th [] 3, rfl, rfl, rfl, rfl, rfl, rfl, ?_, ?_⟩
      · (repeat' first | exact trivial | exact rfl | refine And.intro ?_ ?_)
        exact (wrap_nat k (by omega)).symm
      · (repeat' first | exact trivial | exact rfl | refine And.intro ?_ ?_)
    have g : (cl (by' s k) == 1) = false := g
    have g1 : ¬ cl (by' s k) = 1 := by simpa using g
    intro _; refine ⟨fun g => ?_, fun g => ?_⟩
    · have g : (cl (by' s k) == 2) = true := g
      have g2 : cl (by' s k) = 2 := by simpa using g
      have hw : IntKind.i64.wrap (cl (by' s k) - 1) = lts (cc s) dir (k + 1) := by
        rw [g2]; show _ = (if cc s k = 1 then 0 else if cc s k = 2 then 1 else lts (cc s) dir k); rw [if_neg g1, if_pos g2]; rfl
      have hr : IntKind.i64.wrap (cl (by' s k) - 1) = rwd (cc s) dir k := by
        rw [g2]; unfold rwd; rw [if_neg g1, if_pos g2]; rfl
      intro _; refine ⟨show 0 ≤ (k : Int) ∧ (k : Int) < (s.length : Int) by omega, ?_⟩
      intro _; refine ⟨show (k : Int).toNat < l.length by omega, ?_⟩
      refine ⟨⟨(k + 1, IntKind.i64.wrap (cl (by' s k) - 1), l.set k (IntKind.i64.wrap (cl (by' s k) - 1))), by simp only []; omega, hw, by simp [hn], j1_set (by omega) hm hr⟩, by simp only []; omega, th [] 3, rfl, rfl, rfl, rfl, rfl, rfl, ?_, ?_⟩
      · (repeat' first | exact trivial | exact rfl | refine And.intro ?_ ?_)
        exact (wrap_nat k (by omega)).symm
      · (repeat' first | exact trivial | exact rfl | refine And.intro ?_ ?_)
    have g : (cl (by' s k) == 2) = false := g
    have g2 : ¬ cl (by' s k) = 2 := by simpa using g
    intro _; refine ⟨show 0 ≤ (k : Int) ∧ (k : Int) < (s.length : Int) by omega, ?_⟩
    intro _
    have hls : lt = lts (cc s) dir (k + 1) := by
      show _ = (if cc s k = 1 then 0 else if cc s k = 2 then 1 else lts (cc s) dir k); rw [if_neg g1, if_neg g2]; exact hlt
    refine call_pure [] (isdig_ok (by' s k) (by_bd s k)) rfl rfl rfl ?_ ?_ ?_
    · (repeat' first | exact trivial | exact rfl | refine And.intro ?_ ?_)
    · (repeat' first | exact trivial | exact rfl | refine And.intro ?_ ?_)
    intro v hv _
    subst hv
    intro _; refine ⟨fun g => ?_, fun g => ?_⟩
    · have g : (cl (by' s k) == 3) = true := g
      have g3 : cl (by' s k) = 3 := by simpa using g
      intro _; refine ⟨show 0 ≤ (k : Int) ∧ (k : Int) < (s.length : Int) by omega, ?_⟩
      intro _; refine ⟨show (k : Int).toNat < l.length by omega, ?_⟩
      refine ⟨⟨(k + 1, lt, l.set k (lt)), by simp only []; omega, hls, by simp [hn], j1_set (by omega) hm (by unfold rwd; rw [if_neg g1, if_neg g2, if_pos g3]; exact hlt)⟩, by simp only []; omega, th [] 3, rfl, rfl, rfl, rfl, rfl, rfl, ?_, ?_⟩
      · (repeat' first | exact trivial | exact rfl | refine And.intro ?_ ?_)
        exact (wrap_nat k (by omega)).symm
      · (repeat' first | exact trivial | exact rfl | refine And.intro ?_ ?_)
    · have g : (cl (by' s k) == 3) = false := g
      have g3 : ¬ cl (by' s k) = 3 := by simpa using g
      intro _; refine ⟨show 0 ≤ (k : Int) ∧ (k : Int) < (s.length : Int) by omega, ?_⟩
      intro _; refine ⟨show (k : Int).toNat < l.length by omega, ?_⟩
      refine ⟨⟨(k + 1, lt, l.set k (-1)), by simp only []; omega, hls, by simp [hn], j1_set (by omega) hm (by unfold rwd; rw [if_neg g1, if_neg g2, if_neg g3])⟩, by simp only []; omega, th [] 3, rfl, rfl, rfl, rfl, rfl, rfl, ?_, ?_⟩
      · (repeat' first | exact trivial | exact rfl | refine And.intro ?_ ?_)
        exact (wrap_nat k (by omega)).symm
      · (repeat' first | exact trivial | exact rfl | refine And.intro ?_ ?_)
  have hkl := of_decide_eq_false (show decide ((k : Int) < (s.length : Int)) = false from g)
  have hkl : k = s.length := by omega
  subst hkl
  intro _
  refine enter tt_ok Try.func27 (nt := 6) (cd := body Try.f27) rfl rfl rfl rfl ?_
  intro _
  intro _
  refine range_ok ?_
  intro _
  refine enter tt_ok Try.func35 (nt := 37) (cd := body Try.f35) rfl rfl rfl rfl ?_
  intro _
  refine loop2 tt_ok [4] [1] 7 (fun p : J2 s dir => [(4, .int .i64 (p.1.1 : Nat))]) (fun p => [(1, .arr [.int .i64] .own (.ints p.1.2))]) (fun p => s.length + 1 - p.1.1) ⟨(0, l), by simp only []; omega, hn, fun i h1 h2 => by simp only [] at h2; omega, fun i h1 h2 => hm i h1, fun _ => .inl rfl⟩ ?_
  intro _
  refine ⟨⟨th [] 7, rfl, rfl, rfl, rfl, rfl, rfl, ?_, ?_⟩, ?_⟩
  · (repeat' first | exact trivial | exact rfl | refine And.intro ?_ ?_)
  · (repeat' first | exact trivial | exact rfl | refine And.intro ?_ ?_)
  intro ⟨⟨fr, l⟩, hfr, hn, hm, hz, hlo⟩
  simp only [] at hfr hn hm hz hlo
  intro _; refine ⟨fun g => ?_, fun g => ?_⟩
  rotate_left
  · have hfl := of_decide_eq_false (show decide ((fr : Int) < (s.length : Int)) = false from g)
    have e : l = DL s dir := mk_of hn fun i hi => hm i hi (by omega)
    subst e
    intro _
    intro _
    refine ⟨[(0, some 1)], .grw 0 (DL s dir).length, ⟨1, 0, [(0, .arr [.int .i64] .own (.ints (DL s dir)))]⟩, rfl, rfl, rfl, rfl, ?_, ?_, ⟨rfl, rfl⟩⟩
    · (repeat' first | exact trivial | exact rfl | refine And.intro ?_ ?_)
      all_goals (exact hn)
    · (repeat' first | exact trivial | exact rfl | refine And.intro ?_ ?_)
  have hfl := of_decide_eq_true (show decide ((fr : Int) < (s.length : Int)) = true from g)
  intro _
  refine loop2 tt_ok [4] [] 7 (fun q : { q : Nat // fr ≤ q ∧ q ≤ s.length ∧ ∀ i, fr ≤ i → i < q → Nt (cc s) i = true } => [(4, .int .i64 (q.1 : Nat))]) (fun _ => []) (fun q => s.length - q.1) ⟨fr, Nat.le_refl _, by omega, fun i h1 h2 => by omega⟩ ?_
  intro _
  refine ⟨⟨th [] 7, rfl, rfl, rfl, rfl, rfl, rfl, ?_, ?_⟩, ?_⟩
  · (repeat' first | exact trivial | exact rfl | refine And.intro ?_ ?_)
  · (repeat' first | exact trivial | exact rfl | refine And.intro ?_ ?_)
  intro ⟨at', h1, h2, hrun⟩
  intro _; refine ⟨fun g => ?_, fun g => ?_⟩
  · have hal := of_decide_eq_true (show decide ((at' : Int) < (s.length : Int)) = true from g)
    intro _; refine ⟨show 0 ≤ (at' : Int) ∧ (at' : Int) < (s.length : Int) by omega, ?_⟩
    intro _; refine ⟨show (at' : Int).toNat < l.length by omega, ?_⟩
    intro _
    refine Or.inl ?_
    intro _
    refine enter tt_ok Try.func41 (nt := 5) (cd := body Try.f41) rfl rfl rfl rfl ?_
    intro _
    intro _; refine ⟨by kernel_rfl, ?_⟩
    have eA : l.getD (at' : Int).toNat 0 = rwd (cc s) dir at' := hz at' (by omega) h1
    intro _; refine ⟨fun g => ?_, fun g => ?_⟩
    rotate_left
    · have g : (l.getD (at' : Int).toNat 0 == -1) = false := g
      rw [eA] at g
      have gn : Nt (cc s) at' = false := by
        cases e : Nt (cc s) at' with
        | false => rfl
        | true => rw [rwd_nt e] at g; exact absurd g (by decide)
      have hstop : at' < s.length → Nt (cc s) at' = false := fun _ => gn
      have hR : Run (Nt (cc s)) s.length fr at' := ⟨h1, h2, hrun, hlo (by omega), (Nat.lt_or_ge at' s.length).elim (fun h => .inr (hstop h)) (fun h => .inl (by omega))⟩
      have hat : at' ≤ s.length := h2
      intro _; refine ⟨fun g => ?_, fun g => ?_⟩
      rotate_left
      · have hal2 := of_decide_eq_false (show decide ((at' : Int) > (fr : Int)) = false from g)
        have he : at' = fr := by omega
        subst he
        refine ⟨⟨(at' + 1, l), j3_end hat hstop hn hm hz⟩, by simp only []; omega, th [] 7, rfl, rfl, rfl, rfl, rfl, rfl, ?_, ?_⟩
        · (repeat' first | exact trivial | exact rfl | refine And.intro ?_ ?_)
          exact (wrap_nat at' (by omega)).symm
        · (repeat' first | exact trivial | exact rfl | refine And.intro ?_ ?_)
      have hgt := of_decide_eq_true (show decide ((at' : Int) > (fr : Int)) = true from g)
      intro _
      refine yield_ok tt_ok ?_
      intro _; refine ⟨by kernel_rfl, ?_⟩
      intro _; refine ⟨fun g => ?_, fun g => ?_⟩
      · have hf0 := of_decide_eq_true (show decide ((fr : Int) > 0) = true from g)
        have hf1 : 0 < fr := by omega
        have eF : IntKind.i64.wrap ((fr : Int) - 1) = ((fr - 1 : Nat) : Int) := by rw [wrapS _ ⟨by omega, by omega⟩]; omega
        have hNf : Nt (cc s) (fr - 1) = false := by rcases hR.lo with h | h; exact absurd h (by omega); exact h
        have eX : l.getD (IntKind.i64.wrap ((fr : Int) - 1)).toNat 0 = rwd (cc s) dir (fr - 1) := by
          rw [eF, ← dd_out (n := s.length) hNf]; exact hm (fr - 1) (by omega) (by omega)
        intro _; refine ⟨show 0 ≤ IntKind.i64.wrap ((fr : Int) - 1) ∧ IntKind.i64.wrap ((fr : Int) - 1) < (s.length : Int) by rw [eF]; omega, ?_⟩
        intro _; refine ⟨show (IntKind.i64.wrap ((fr : Int) - 1)).toNat < l.length by rw [eF]; omega, ?_⟩
        intro _; refine ⟨fun g => ?_, fun g => ?_⟩
        · have hal3 := of_decide_eq_true (show decide ((at' : Int) < (s.length : Int)) = true from g)
          have hal4 : at' < s.length := by omega
          have eY : l.getD (at' : Int).toNat 0 = rwd (cc s) dir at' := hz at' hal4 h1
          intro _; refine ⟨show 0 ≤ (at' : Int) ∧ (at' : Int) < (s.length : Int) by omega, ?_⟩
          intro _; refine ⟨show (at' : Int).toNat < l.length by omega, ?_⟩
          intro _; refine ⟨fun g => ?_, fun g => ?_⟩
          · skip
            have eq : ((l.getD (IntKind.i64.wrap ((fr : Int) - 1)).toNat 0) != (l.getD (at' : Int).toNat 0)) = true := g
            rw [eX] at eq
            rw [eY] at eq
            have hb : dval (cc s) dir s.length fr at' = dir := by
              have eq := bne_iff_ne.1 eq
              unfold dval; simp only [eq_true hf1, eq_true hal4, if_true, if_false, ite_true, ite_false]; all_goals (rw [if_neg eq])
            intro _
            refine loop2 tt_ok [13, 11] [1] 7 (fun q : J3 s dir fr at' => [(13, .int .i64 (q.1.1 : Nat)), (11, .int .i64 (dval (cc s) dir s.length fr at'))]) (fun q => [(1, .arr [.int .i64] .own (.ints q.1.2))]) (fun q => at' - q.1.1) ⟨(fr, l), Nat.le_refl _, by simp only []; omega, hn, hm, hz⟩ ?_
            intro _
            refine ⟨⟨th [] 7, rfl, rfl, rfl, rfl, rfl, rfl, ?_, ?_⟩, ?_⟩
            · (repeat' first | exact trivial | exact rfl | refine And.intro ?_ ?_)
              all_goals (exact hb)
            · (repeat' first | exact trivial | exact rfl | refine And.intro ?_ ?_)
            intro ⟨⟨k, l'⟩, hfk, hka, hn', hm', hz'⟩
            simp only [] at hfk hka hn' hm' hz'
            intro _; refine ⟨fun g => ?_, fun g => ?_⟩
            · have hkl := of_decide_eq_true (show decide ((k : Int) < (at' : Int)) = true from g)
              intro _; refine ⟨show 0 ≤ (k : Int) ∧ (k : Int) < (s.length : Int) by omega, ?_⟩
              intro _; refine ⟨show (k : Int).toNat < l'.length by omega, ?_⟩
              refine ⟨⟨(k + 1, l'.set k (dval (cc s) dir s.length fr at')), ?_⟩, by simp only []; omega, th [] 7, rfl, rfl, rfl, rfl, rfl, rfl, ?_, ?_⟩
              · exact j3_set hR hfk hkl hn' hm' hz'
              · (repeat' first | exact trivial | exact rfl | refine And.intro ?_ ?_)
                exact (wrap_nat k (by omega)).symm
              · (repeat' first | exact trivial | exact rfl | refine And.intro ?_ ?_)
            have hkl := of_decide_eq_false (show decide ((k : Int) < (at' : Int)) = false from g)
            have hkl : k = at' := by omega
            subst hkl
            intro _
            refine ⟨⟨(k + 1, l'), j3_end hat hstop hn' hm' hz'⟩, by simp only []; omega, th [] 7, rfl, rfl, rfl, rfl, rfl, rfl, ?_, ?_⟩
            · (repeat' first | exact trivial | exact rfl | refine And.intro ?_ ?_)
              exact (wrap_nat k (by omega)).symm
            · (repeat' first | exact trivial | exact rfl | refine And.intro ?_ ?_)
          have eq : ((l.getD (IntKind.i64.wrap ((fr : Int) - 1)).toNat 0) != (l.getD (at' : Int).toNat 0)) = false := g
          rw [eX] at eq
          rw [eY] at eq
          have hb : dval (cc s) dir s.length fr at' = l.getD (IntKind.i64.wrap ((fr : Int) - 1)).toNat 0 := by
            have eq : rwd (cc s) dir (fr - 1) = rwd (cc s) dir at' := by simpa using eq
            rw [eX]; unfold dval; simp only [eq_true hf1, eq_true hal4, if_true, if_false, ite_true, ite_false]; all_goals (rw [if_pos eq])
          intro _
          refine loop2 tt_ok [13, 11] [1] 7 (fun q : J3 s dir fr at' => [(13, .int .i64 (q.1.1 : Nat)), (11, .int .i64 (dval (cc s) dir s.length fr at'))]) (fun q => [(1, .arr [.int .i64] .own (.ints q.1.2))]) (fun q => at' - q.1.1) ⟨(fr, l), Nat.le_refl _, by simp only []; omega, hn, hm, hz⟩ ?_
          intro _
          refine ⟨⟨th [] 7, rfl, rfl, rfl, rfl, rfl, rfl, ?_, ?_⟩, ?_⟩
          · (repeat' first | exact trivial | exact rfl | refine And.intro ?_ ?_)
            all_goals (exact hb)
          · (repeat' first | exact trivial | exact rfl | refine And.intro ?_ ?_)
          intro ⟨⟨k, l'⟩, hfk, hka, hn', hm', hz'⟩
          simp only [] at hfk hka hn' hm' hz'
          intro _; refine ⟨fun g => ?_, fun g => ?_⟩
          · have hkl := of_decide_eq_true (show decide ((k : Int) < (at' : Int)) = true from g)
            intro _; refine ⟨show 0 ≤ (k : Int) ∧ (k : Int) < (s.length : Int) by omega, ?_⟩
            intro _; refine ⟨show (k : Int).toNat < l'.length by omega, ?_⟩
            refine ⟨⟨(k + 1, l'.set k (dval (cc s) dir s.length fr at')), ?_⟩, by simp only []; omega, th [] 7, rfl, rfl, rfl, rfl, rfl, rfl, ?_, ?_⟩
            · exact j3_set hR hfk hkl hn' hm' hz'
            · (repeat' first | exact trivial | exact rfl | refine And.intro ?_ ?_)
              exact (wrap_nat k (by omega)).symm
            · (repeat' first | exact trivial | exact rfl | refine And.intro ?_ ?_)
          have hkl := of_decide_eq_false (show decide ((k : Int) < (at' : Int)) = false from g)
          have hkl : k = at' := by omega
          subst hkl
          intro _
          refine ⟨⟨(k + 1, l'), j3_end hat hstop hn' hm' hz'⟩, by simp only []; omega, th [] 7, rfl, rfl, rfl, rfl, rfl, rfl, ?_, ?_⟩
          · (repeat' first | exact trivial | exact rfl | refine And.intro ?_ ?_)
            exact (wrap_nat k (by omega)).symm
          · (repeat' first | exact trivial | exact rfl | refine And.intro ?_ ?_)
        have hal3 := of_decide_eq_false (show decide ((at' : Int) < (s.length : Int)) = false from g)
        have hal4 : ¬ at' < s.length := by omega
        intro _; refine ⟨fun g => ?_, fun g => ?_⟩
        · skip
          have eq : ((l.getD (IntKind.i64.wrap ((fr : Int) - 1)).toNat 0) != (dir)) = true := g
          rw [eX] at eq
          have hb : dval (cc s) dir s.length fr at' = dir := by
            have eq := bne_iff_ne.1 eq
            unfold dval; simp only [eq_true hf1, eq_false hal4, if_true, if_false, ite_true, ite_false]; all_goals (rw [if_neg eq])
          intro _
          refine loop2 tt_ok [13, 11] [1] 7 (fun q : J3 s dir fr at' => [(13, .int .i64 (q.1.1 : Nat)), (11, .int .i64 (dval (cc s) dir s.length fr at'))]) (fun q => [(1, .arr [.int .i64] .own (.ints q.1.2))]) (fun q => at' - q.1.1) ⟨(fr, l), Nat.le_refl _, by simp only []; omega, hn, hm, hz⟩ ?_
          intro _
          refine ⟨⟨th [] 7, rfl, rfl, rfl, rfl, rfl, rfl, ?_, ?_⟩, ?_⟩
          · (repeat' first | exact trivial | exact rfl | refine And.intro ?_ ?_)
            all_goals (exact hb)
          · (repeat' first | exact trivial | exact rfl | refine And.intro ?_ ?_)
          intro ⟨⟨k, l'⟩, hfk, hka, hn', hm', hz'⟩
          simp only [] at hfk hka hn' hm' hz'
          intro _; refine ⟨fun g => ?_, fun g => ?_⟩
          · have hkl := of_decide_eq_true (show decide ((k : Int) < (at' : Int)) = true from g)
            intro _; refine ⟨show 0 ≤ (k : Int) ∧ (k : Int) < (s.length : Int) by omega, ?_⟩
            intro _; refine ⟨show (k : Int).toNat < l'.length by omega, ?_⟩
            refine ⟨⟨(k + 1, l'.set k (dval (cc s) dir s.length fr at')), ?_⟩, by simp only []; omega, th [] 7, rfl, rfl, rfl, rfl, rfl, rfl, ?_, ?_⟩
            · exact j3_set hR hfk hkl hn' hm' hz'
            · (repeat' first | exact trivial | exact rfl | refine And.intro ?_ ?_)
              exact (wrap_nat k (by omega)).symm
            · (repeat' first | exact trivial | exact rfl | refine And.intro ?_ ?_)
          have hkl := of_decide_eq_false (show decide ((k : Int) < (at' : Int)) = false from g)
          have hkl : k = at' := by omega
          subst hkl
          intro _
          refine ⟨⟨(k + 1, l'), j3_end hat hstop hn' hm' hz'⟩, by simp only []; omega, th [] 7, rfl, rfl, rfl, rfl, rfl, rfl, ?_, ?_⟩
          · (repeat' first | exact trivial | exact rfl | refine And.intro ?_ ?_)
            exact (wrap_nat k (by omega)).symm
          · (repeat' first | exact trivial | exact rfl | refine And.intro ?_ ?_)
        have eq : ((l.getD (IntKind.i64.wrap ((fr : Int) - 1)).toNat 0) != (dir)) = false := g
        rw [eX] at eq
        have hb : dval (cc s) dir s.length fr at' = l.getD (IntKind.i64.wrap ((fr : Int) - 1)).toNat 0 := by
          have eq : rwd (cc s) dir (fr - 1) = dir := by simpa using eq
          rw [eX]; unfold dval; simp only [eq_true hf1, eq_false hal4, if_true, if_false, ite_true, ite_false]; all_goals (rw [if_pos eq])
        intro _
        refine loop2 tt_ok [13, 11] [1] 7 (fun q : J3 s dir fr at' => [(13, .int .i64 (q.1.1 : Nat)), (11, .int .i64 (dval (cc s) dir s.length fr at'))]) (fun q => [(1, .arr [.int .i64] .own (.ints q.1.2))]) (fun q => at' - q.1.1) ⟨(fr, l), Nat.le_refl _, by simp only []; omega, hn, hm, hz⟩ ?_
        intro _
        refine ⟨⟨th [] 7, rfl, rfl, rfl, rfl, rfl, rfl, ?_, ?_⟩, ?_⟩
        · (repeat' first | exact trivial | exact rfl | refine And.intro ?_ ?_)
          all_goals (exact hb)
        · (repeat' first | exact trivial | exact rfl | refine And.intro ?_ ?_)
        intro ⟨⟨k, l'⟩, hfk, hka, hn', hm', hz'⟩
        simp only [] at hfk hka hn' hm' hz'
        intro _; refine ⟨fun g => ?_, fun g => ?_⟩
        · have hkl := of_decide_eq_true (show decide ((k : Int) < (at' : Int)) = true from g)
          intro _; refine ⟨show 0 ≤ (k : Int) ∧ (k : Int) < (s.length : Int) by omega, ?_⟩
          intro _; refine ⟨show (k : Int).toNat < l'.length by omega, ?_⟩
          refine ⟨⟨(k + 1, l'.set k (dval (cc s) dir s.length fr at')), ?_⟩, by simp only []; omega, th [] 7, rfl, rfl, rfl, rfl, rfl, rfl, ?_, ?_⟩
          · exact j3_set hR hfk hkl hn' hm' hz'
          · (repeat' first | exact trivial | exact rfl | refine And.intro ?_ ?_)
            exact (wrap_nat k (by omega)).symm
          · (repeat' first | exact trivial | exact rfl | refine And.intro ?_ ?_)
        have hkl := of_decide_eq_false (show decide ((k : Int) < (at' : Int)) = false from g)
        have hkl : k = at' := by omega
        subst hkl
        intro _
        refine ⟨⟨(k + 1, l'), j3_end hat hstop hn' hm' hz'⟩, by simp only []; omega, th [] 7, rfl, rfl, rfl, rfl, rfl, rfl, ?_, ?_⟩
        · (repeat' first | exact trivial | exact rfl | refine And.intro ?_ ?_)
          exact (wrap_nat k (by omega)).symm
        · (repeat' first | exact trivial | exact rfl | refine And.intro ?_ ?_)
      have hf0 := of_decide_eq_false (show decide ((fr : Int) > 0) = false from g)
      have hf1 : ¬ 0 < fr := by omega
      intro _; refine ⟨fun g => ?_, fun g => ?_⟩
      · have hal3 := of_decide_eq_true (show decide ((at' : Int) < (s.length : Int)) = true from g)
        have hal4 : at' < s.length := by omega
        have eY : l.getD (at' : Int).toNat 0 = rwd (cc s) dir at' := hz at' hal4 h1
        intro _; refine ⟨show 0 ≤ (at' : Int) ∧ (at' : Int) < (s.length : Int) by omega, ?_⟩
        intro _; refine ⟨show (at' : Int).toNat < l.length by omega, ?_⟩
        intro _; refine ⟨fun g => ?_, fun g => ?_⟩
        · skip
          have eq : ((dir) != (l.getD (at' : Int).toNat 0)) = true := g
          rw [eY] at eq
          have hb : dval (cc s) dir s.length fr at' = dir := by
            have eq := bne_iff_ne.1 eq
            unfold dval; simp only [eq_false hf1, eq_true hal4, if_true, if_false, ite_true, ite_false]; all_goals (rw [if_neg eq])
          intro _
          refine loop2 tt_ok [13, 11] [1] 7 (fun q : J3 s dir fr at' => [(13, .int .i64 (q.1.1 : Nat)), (11, .int .i64 (dval (cc s) dir s.length fr at'))]) (fun q => [(1, .arr [.int .i64] .own (.ints q.1.2))]) (fun q => at' - q.1.1) ⟨(fr, l), Nat.le_refl _, by simp only []; omega, hn, hm, hz⟩ ?_
          intro _
          refine ⟨⟨th [] 7, rfl, rfl, rfl, rfl, rfl, rfl, ?_, ?_⟩, ?_⟩
          · (repeat' first | exact trivial | exact rfl | refine And.intro ?_ ?_)
            all_goals (exact hb)
          · (repeat' first | exact trivial | exact rfl | refine And.intro ?_ ?_)
          intro ⟨⟨k, l'⟩, hfk, hka, hn', hm', hz'⟩
          simp only [] at hfk hka hn' hm' hz'
          intro _; refine ⟨fun g => ?_, fun g => ?_⟩
          · have hkl := of_decide_eq_true (show decide ((k : Int) < (at' : Int)) = true from g)
            intro _; refine ⟨show 0 ≤ (k : Int) ∧ (k : Int) < (s.length : Int) by omega, ?_⟩
            intro _; refine ⟨show (k : Int).toNat < l'.length by omega, ?_⟩
            refine ⟨⟨(k + 1, l'.set k (dval (cc s) dir s.length fr at')), ?_⟩, by simp only []; omega, th [] 7, rfl, rfl, rfl, rfl, rfl, rfl, ?_, ?_⟩
            · exact j3_set hR hfk hkl hn' hm' hz'
            · (repeat' first | exact trivial | exact rfl | refine And.intro ?_ ?_)
              exact (wrap_nat k (by omega)).symm
            · (repeat' first | exact trivial | exact rfl | refine And.intro ?_ ?_)
          have hkl := of_decide_eq_false (show decide ((k : Int) < (at' : Int)) = false from g)
          have hkl : k = at' := by omega
          subst hkl
          intro _
          refine ⟨⟨(k + 1, l'), j3_end hat hstop hn' hm' hz'⟩, by simp only []; omega, th [] 7, rfl, rfl, rfl, rfl, rfl, rfl, ?_, ?_⟩
          · (repeat' first | exact trivial | exact rfl | refine And.intro ?_ ?_)
            exact (wrap_nat k (by omega)).symm
          · (repeat' first | exact trivial | exact rfl | refine And.intro ?_ ?_)
        have eq : ((dir) != (l.getD (at' : Int).toNat 0)) = false := g
        rw [eY] at eq
        have hb : dval (cc s) dir s.length fr at' = dir := by
          have eq : dir = rwd (cc s) dir at' := by simpa using eq
          unfold dval; simp only [eq_false hf1, eq_true hal4, if_true, if_false, ite_true, ite_false]; all_goals (rw [if_pos eq])
        intro _
        refine loop2 tt_ok [13, 11] [1] 7 (fun q : J3 s dir fr at' => [(13, .int .i64 (q.1.1 : Nat)), (11, .int .i64 (dval (cc s) dir s.length fr at'))]) (fun q => [(1, .arr [.int .i64] .own (.ints q.1.2))]) (fun q => at' - q.1.1) ⟨(fr, l), Nat.le_refl _, by simp only []; omega, hn, hm, hz⟩ ?_
        intro _
        refine ⟨⟨th [] 7, rfl, rfl, rfl, rfl, rfl, rfl, ?_, ?_⟩, ?_⟩
        · (repeat' first | exact trivial | exact rfl | refine And.intro ?_ ?_)
          all_goals (exact hb)
        · (repeat' first | exact trivial | exact rfl | refine And.intro ?_ ?_)
        intro ⟨⟨k, l'⟩, hfk, hka, hn', hm', hz'⟩
        simp only [] at hfk hka hn' hm' hz'
        intro _; refine ⟨fun g => ?_, fun g => ?_⟩
        · have hkl := of_decide_eq_true (show decide ((k : Int) < (at' : Int)) = true from g)
          intro _; refine ⟨show 0 ≤ (k : Int) ∧ (k : Int) < (s.length : Int) by omega, ?_⟩
          intro _; refine ⟨show (k : Int).toNat < l'.length by omega, ?_⟩
          refine ⟨⟨(k + 1, l'.set k (dval (cc s) dir s.length fr at')), ?_⟩, by simp only []; omega, th [] 7, rfl, rfl, rfl, rfl, rfl, rfl, ?_, ?_⟩
          · exact j3_set hR hfk hkl hn' hm' hz'
          · (repeat' first | exact trivial | exact rfl | refine And.intro ?_ ?_)
            exact (wrap_nat k (by omega)).symm
          · (repeat' first | exact trivial | exact rfl | refine And.intro ?_ ?_)
        have hkl := of_decide_eq_false (show decide ((k : Int) < (at' : Int)) = false from g)
        have hkl : k = at' := by omega
        subst hkl
        intro _
        refine ⟨⟨(k + 1, l'), j3_end hat hstop hn' hm' hz'⟩, by simp only []; omega, th [] 7, rfl, rfl, rfl, rfl, rfl, rfl, ?_, ?_⟩
        · (repeat' first | exact trivial | exact rfl | refine And.intro ?_ ?_)
          exact (wrap_nat k (by omega)).symm
        · (repeat' first | exact trivial | exact rfl | refine And.intro ?_ ?_)
      have hal3 := of_decide_eq_false (show decide ((at' : Int) < (s.length : Int)) = false from g)
      have hal4 : ¬ at' < s.length := by omega
      intro _; refine ⟨fun g => ?_, fun g => ?_⟩
      · skip
        have eq : ((dir) != (dir)) = true := g
        have hb : dval (cc s) dir s.length fr at' = dir := by
          have eq := bne_iff_ne.1 eq
          unfold dval; simp only [eq_false hf1, eq_false hal4, if_true, if_false, ite_true, ite_false]; all_goals (rw [if_neg eq])
        intro _
        refine loop2 tt_ok [13, 11] [1] 7 (fun q : J3 s dir fr at' => [(13, .int .i64 (q.1.1 : Nat)), (11, .int .i64 (dval (cc s) dir s.length fr at'))]) (fun q => [(1, .arr [.int .i64] .own (.ints q.1.2))]) (fun q => at' - q.1.1) ⟨(fr, l), Nat.le_refl _, by simp only []; omega, hn, hm, hz⟩ ?_
        intro _
        refine ⟨⟨th [] 7, rfl, rfl, rfl, rfl, rfl, rfl, ?_, ?_⟩, ?_⟩
        · (repeat' first | exact trivial | exact rfl | refine And.intro ?_ ?_)
          all_goals (exact hb)
        · (repeat' first | exact trivial | exact rfl | refine And.intro ?_ ?_)
        intro ⟨⟨k, l'⟩, hfk, hka, hn', hm', hz'⟩
        simp only [] at hfk hka hn' hm' hz'
        intro _; refine ⟨fun g => ?_, fun g => ?_⟩
        · have hkl := of_decide_eq_true (show decide ((k : Int) < (at' : Int)) = true from g)
          intro _; refine ⟨show 0 ≤ (k : Int) ∧ (k : Int) < (s.length : Int) by omega, ?_⟩
          intro _; refine ⟨show (k : Int).toNat < l'.length by omega, ?_⟩
          refine ⟨⟨(k + 1, l'.set k (dval (cc s) dir s.length fr at')), ?_⟩, by simp only []; omega, th [] 7, rfl, rfl, rfl, rfl, rfl, rfl, ?_, ?_⟩
          · exact j3_set hR hfk hkl hn' hm' hz'
          · (repeat' first | exact trivial | exact rfl | refine And.intro ?_ ?_)
            exact (wrap_nat k (by omega)).symm
          · (repeat' first | exact trivial | exact rfl | refine And.intro ?_ ?_)
        have hkl := of_decide_eq_false (show decide ((k : Int) < (at' : Int)) = false from g)
        have hkl : k = at' := by omega
        subst hkl
        intro _
        refine ⟨⟨(k + 1, l'), j3_end hat hstop hn' hm' hz'⟩, by simp only []; omega, th [] 7, rfl, rfl, rfl, rfl, rfl, rfl, ?_, ?_⟩
        · (repeat' first | exact trivial | exact rfl | refine And.intro ?_ ?_)
          exact (wrap_nat k (by omega)).symm
        · (repeat' first | exact trivial | exact rfl | refine And.intro ?_ ?_)
      have eq : ((dir) != (dir)) = false := g
      have hb : dval (cc s) dir s.length fr at' = dir := by
        have eq : dir = dir := by simpa using eq
        unfold dval; simp only [eq_false hf1, eq_false hal4, if_true, if_false, ite_true, ite_false]; all_goals (rw [if_pos eq])
      intro _
      refine loop2 tt_ok [13, 11] [1] 7 (fun q : J3 s dir fr at' => [(13, .int .i64 (q.1.1 : Nat)), (11, .int .i64 (dval (cc s) dir s.length fr at'))]) (fun q => [(1, .arr [.int .i64] .own (.ints q.1.2))]) (fun q => at' - q.1.1) ⟨(fr, l), Nat.le_refl _, by simp only []; omega, hn, hm, hz⟩ ?_
      intro _
      refine ⟨⟨th [] 7, rfl, rfl, rfl, rfl, rfl, rfl, ?_, ?_⟩, ?_⟩
      · (repeat' first | exact trivial | exact rfl | refine And.intro ?_ ?_)
        all_goals (exact hb)
      · (repeat' first | exact trivial | exact rfl | refine And.intro ?_ ?_)
      intro ⟨⟨k, l'⟩, hfk, hka, hn', hm', hz'⟩
      simp only [] at hfk hka hn' hm' hz'
      intro _; refine ⟨fun g => ?_, fun g => ?_⟩
      · have hkl := of_decide_eq_true (show decide ((k : Int) < (at' : Int)) = true from g)
        intro _; refine ⟨show 0 ≤ (k : Int) ∧ (k : Int) < (s.length : Int) by omega, ?_⟩
        intro _; refine ⟨show (k : Int).toNat < l'.length by omega, ?_⟩
        refine ⟨⟨(k + 1, l'.set k (dval (cc s) dir s.length fr at')), ?_⟩, by simp only []; omega, th [] 7, rfl, rfl, rfl, rfl, rfl, rfl, ?_, ?_⟩
        · exact j3_set hR hfk hkl hn' hm' hz'
        · (repeat' first | exact trivial | exact rfl | refine And.intro ?_ ?_)
          exact (wrap_nat k (by omega)).symm
        · (repeat' first | exact trivial | exact rfl | refine And.intro ?_ ?_)
      have hkl := of_decide_eq_false (show decide ((k : Int) < (at' : Int)) = false from g)
      have hkl : k = at' := by omega
      subst hkl
      intro _
      refine ⟨⟨(k + 1, l'), j3_end hat hstop hn' hm' hz'⟩, by simp only []; omega, th [] 7, rfl, rfl, rfl, rfl, rfl, rfl, ?_, ?_⟩
      · (repeat' first | exact trivial | exact rfl | refine And.intro ?_ ?_)
        exact (wrap_nat k (by omega)).symm
      · (repeat' first | exact trivial | exact rfl | refine And.intro ?_ ?_)
    have g : (l.getD (at' : Int).toNat 0 == -1) = true := g
    rw [eA] at g
    have gn : Nt (cc s) at' = true := by
      cases e : Nt (cc s) at' with
      | true => rfl
      | false =>
        have g : rwd (cc s) dir at' = -1 := by simpa using g
        rcases rwd01 hd e with h | h <;> omega
    refine ⟨⟨at' + 1, by omega, by omega, fun i h3 h4 => ?_⟩, by simp only []; omega, th [] 7, rfl, rfl, rfl, rfl, rfl, rfl, ?_, ?_⟩
    · by_cases e : i = at'
      · rw [e]; exact gn
      · exact hrun i h3 (by omega)
    · (repeat' first | exact trivial | exact rfl | refine And.intro ?_ ?_)
      exact (wrap_nat at' (by omega)).symm
    · (repeat' first | exact trivial | exact rfl | refine And.intro ?_ ?_)
  have hal := of_decide_eq_false (show decide ((at' : Int) < (s.length : Int)) = false from g)
  intro _; refine ⟨by kernel_rfl, ?_⟩
  have hstop : at' < s.length → Nt (cc s) at' = false := fun h => by omega
  have hR : Run (Nt (cc s)) s.length fr at' := ⟨h1, h2, hrun, hlo (by omega), (Nat.lt_or_ge at' s.length).elim (fun h => .inr (hstop h)) (fun h => .inl (by omega))⟩
  have hat : at' ≤ s.length := h2
  intro _; refine ⟨fun g => ?_, fun g => ?_⟩
  rotate_left
  · have hal2 := of_decide_eq_false (show decide ((at' : Int) > (fr : Int)) = false from g)
    have he : at' = fr := by omega
    subst he
    refine ⟨⟨(at' + 1, l), j3_end hat hstop hn hm hz⟩, by simp only []; omega, th [] 7, rfl, rfl, rfl, rfl, rfl, rfl, ?_, ?_⟩
    · (repeat' first | exact trivial | exact rfl | refine And.intro ?_ ?_)
      exact (wrap_nat at' (by omega)).symm
    · (repeat' first | exact trivial | exact rfl | refine And.intro ?_ ?_)
  have hgt := of_decide_eq_true (show decide ((at' : Int) > (fr : Int)) = true from g)
  intro _
  refine yield_ok tt_ok ?_
  intro _; refine ⟨by kernel_rfl, ?_⟩
  intro _; refine ⟨fun g => ?_, fun g => ?_⟩
  · have hf0 := of_decide_eq_true (show decide ((fr : Int) > 0) = true from g)
    have hf1 : 0 < fr := by omega
    have eF : IntKind.i64.wrap ((fr : Int) - 1) = ((fr - 1 : Nat) : Int) := by rw [wrapS _ ⟨by omega, by omega⟩]; omega
    have hNf : Nt (cc s) (fr - 1) = false := by rcases hR.lo with h | h; exact absurd h (by omega); exact h
    have eX : l.getD (IntKind.i64.wrap ((fr : Int) - 1)).toNat 0 = rwd (cc s) dir (fr - 1) := by
      rw [eF, ← dd_out (n := s.length) hNf]; exact hm (fr - 1) (by omega) (by omega)
    intro _; refine ⟨show 0 ≤ IntKind.i64.wrap ((fr : Int) - 1) ∧ IntKind.i64.wrap ((fr : Int) - 1) < (s.length : Int) by rw [eF]; omega, ?_⟩
    intro _; refine ⟨show (IntKind.i64.wrap ((fr : Int) - 1)).toNat < l.length by rw [eF]; omega, ?_⟩
    intro _; refine ⟨fun g => ?_, fun g => ?_⟩
    · have hal3 := of_decide_eq_true (show decide ((at' : Int) < (s.length : Int)) = true from g)
      have hal4 : at' < s.length := by omega
      have eY : l.getD (at' : Int).toNat 0 = rwd (cc s) dir at' := hz at' hal4 h1
      intro _; refine ⟨show 0 ≤ (at' : Int) ∧ (at' : Int) < (s.length : Int) by omega, ?_⟩
      intro _; refine ⟨show (at' : Int).toNat < l.length by omega, ?_⟩
      intro _; refine ⟨fun g => ?_, fun g => ?_⟩
      · skip
        have eq : ((l.getD (IntKind.i64.wrap ((fr : Int) - 1)).toNat 0) != (l.getD (at' : Int).toNat 0)) = true := g
        rw [eX] at eq
        rw [eY] at eq
        have hb : dval (cc s) dir s.length fr at' = dir := by
          have eq := bne_iff_ne.1 eq
          unfold dval; simp only [eq_true hf1, eq_true hal4, if_true, if_false, ite_true, ite_false]; all_goals (rw [if_neg eq])
        intro _
        refine loop2 tt_ok [13, 11] [1] 7 (fun q : J3 s dir fr at' => [(13, .int .i64 (q.1.1 : Nat)), (11, .int .i64 (dval (cc s) dir s.length fr at'))]) (fun q => [(1, .arr [.int .i64] .own (.ints q.1.2))]) (fun q => at' - q.1.1) ⟨(fr, l), Nat.le_refl _, by simp only []; omega, hn, hm, hz⟩ ?_
        intro _
        refine ⟨⟨th [] 7, rfl, rfl, rfl, rfl, rfl, rfl, ?_, ?_⟩, ?_⟩
        · (repeat' first | exact trivial | exact rfl | refine And.intro ?_ ?_)
          all_goals (exact hb)
        · (repeat' first | exact trivial | exact rfl | refine And.intro ?_ ?_)
        intro ⟨⟨k, l'⟩, hfk, hka, hn', hm', hz'⟩
        simp only [] at hfk hka hn' hm' hz'
        intro _; refine ⟨fun g => ?_, fun g => ?_⟩
        · have hkl := of_decide_eq_true (show decide ((k : Int) < (at' : Int)) = true from g)
          intro _; refine ⟨show 0 ≤ (k : Int) ∧ (k : Int) < (s.length : Int) by omega, ?_⟩
          intro _; refine ⟨show (k : Int).toNat < l'.length by omega, ?_⟩
          refine ⟨⟨(k + 1, l'.set k (dval (cc s) dir s.length fr at')), ?_⟩, by simp only []; omega, th [] 7, rfl, rfl, rfl, rfl, rfl, rfl, ?_, ?_⟩
          · exact j3_set hR hfk hkl hn' hm' hz'
          · (repeat' first | exact trivial | exact rfl | refine And.intro ?_ ?_)
            exact (wrap_nat k (by omega)).symm
          · (repeat' first | exact trivial | exact rfl | refine And.intro ?_ ?_)
        have hkl := of_decide_eq_false (show decide ((k : Int) < (at' : Int)) = false from g)
        have hkl : k = at' := by omega
        subst hkl
        intro _
        refine ⟨⟨(k + 1, l'), j3_end hat hstop hn' hm' hz'⟩, by simp only []; omega, th [] 7, rfl, rfl, rfl, rfl, rfl, rfl, ?_, ?_⟩
        · (repeat' first | exact trivial | exact rfl | refine And.intro ?_ ?_)
          exact (wrap_nat k (by omega)).symm
        · (repeat' first | exact trivial | exact rfl | refine And.intro ?_ ?_)
      have eq : ((l.getD (IntKind.i64.wrap ((fr : Int) - 1)).toNat 0) != (l.getD (at' : Int).toNat 0)) = false := g
      rw [eX] at eq
      rw [eY] at eq
      have hb : dval (cc s) dir s.length fr at' = l.getD (IntKind.i64.wrap ((fr : Int) - 1)).toNat 0 := by
        have eq : rwd (cc s) dir (fr - 1) = rwd (cc s) dir at' := by simpa using eq
        rw [eX]; unfold dval; simp only [eq_true hf1, eq_true hal4, if_true, if_false, ite_true, ite_false]; all_goals (rw [if_pos eq])
      intro _
      refine loop2 tt_ok [13, 11] [1] 7 (fun q : J3 s dir fr at' => [(13, .int .i64 (q.1.1 : Nat)), (11, .int .i64 (dval (cc s) dir s.length fr at'))]) (fun q => [(1, .arr [.int .i64] .own (.ints q.1.2))]) (fun q => at' - q.1.1) ⟨(fr, l), Nat.le_refl _, by simp only []; omega, hn, hm, hz⟩ ?_
      intro _
      refine ⟨⟨th [] 7, rfl, rfl, rfl, rfl, rfl, rfl, ?_, ?_⟩, ?_⟩
      · (repeat' first | exact trivial | exact rfl | refine And.intro ?_ ?_)
        all_goals (exact hb)
      · (repeat' first | exact trivial | exact rfl | refine And.intro ?_ ?_)
      intro ⟨⟨k, l'⟩, hfk, hka, hn', hm', hz'⟩
      simp only [] at hfk hka hn' hm' hz'
      intro _; refine ⟨fun g => ?_, fun g => ?_⟩
      · have hkl := of_decide_eq_true (show decide ((k : Int) < (at' : Int)) = true from g)
        intro _; refine ⟨show 0 ≤ (k : Int) ∧ (k : Int) < (s.length : Int) by omega, ?_⟩
        intro _; refine ⟨show (k : Int).toNat < l'.length by omega, ?_⟩
        refine ⟨⟨(k + 1, l'.set k (dval (cc s) dir s.length fr at')), ?_⟩, by simp only []; omega, th [] 7, rfl, rfl, rfl, rfl, rfl, rfl, ?_, ?_⟩
        · exact j3_set hR hfk hkl hn' hm' hz'
        · (repeat' first | exact trivial | exact rfl | refine And.intro ?_ ?_)
          exact (wrap_nat k (by omega)).symm
        · (repeat' first | exact trivial | exact rfl | refine And.intro ?_ ?_)
      have hkl := of_decide_eq_false (show decide ((k : Int) < (at' : Int)) = false from g)
      have hkl : k = at' := by omega
      subst hkl
      intro _
      refine ⟨⟨(k + 1, l'), j3_end hat hstop hn' hm' hz'⟩, by simp only []; omega, th [] 7, rfl, rfl, rfl, rfl, rfl, rfl, ?_, ?_⟩
      · (repeat' first | exact trivial | exact rfl | refine And.intro ?_ ?_)
        exact (wrap_nat k (by omega)).symm
      · (repeat' first | exact trivial | exact rfl | refine And.intro ?_ ?_)
    have hal3 := of_decide_eq_false (show decide ((at' : Int) < (s.length : Int)) = false from g)
    have hal4 : ¬ at' < s.length := by omega
    intro _; refine ⟨fun g => ?_, fun g => ?_⟩
    · skip
      have eq : ((l.getD (IntKind.i64.wrap ((fr : Int) - 1)).toNat 0) != (dir)) = true := g
      rw [eX] at eq
      have hb : dval (cc s) dir s.length fr at' = dir := by
        have eq := bne_iff_ne.1 eq
        unfold dval; simp only [eq_true hf1, eq_false hal4, if_true, if_false, ite_true, ite_false]; all_goals (rw [if_neg eq])
      intro _
      refine loop2 tt_ok [13, 11] [1] 7 (fun q : J3 s dir fr at' => [(13, .int .i64 (q.1.1 : Nat)), (11, .int .i64 (dval (cc s) dir s.length fr at'))]) (fun q => [(1, .arr [.int .i64] .own (.ints q.1.2))]) (fun q => at' - q.1.1) ⟨(fr, l), Nat.le_refl _, by simp only []; omega, hn, hm, hz⟩ ?_
      intro _
      refine ⟨⟨th [] 7, rfl, rfl, rfl, rfl, rfl, rfl, ?_, ?_⟩, ?_⟩
      · (repeat' first | exact trivial | exact rfl | refine And.intro ?_ ?_)
        all_goals (exact hb)
      · (repeat' first | exact trivial | exact rfl | refine And.intro ?_ ?_)
      intro ⟨⟨k, l'⟩, hfk, hka, hn', hm', hz'⟩
      simp only [] at hfk hka hn' hm' hz'
      intro _; refine ⟨fun g => ?_, fun g => ?_⟩
      · have hkl := of_decide_eq_true (show decide ((k : Int) < (at' : Int)) = true from g)
        intro _; refine ⟨show 0 ≤ (k : Int) ∧ (k : Int) < (s.length : Int) by omega, ?_⟩
        intro _; refine ⟨show (k : Int).toNat < l'.length by omega, ?_⟩
        refine ⟨⟨(k + 1, l'.set k (dval (cc s) dir s.length fr at')), ?_⟩, by simp only []; omega, th [] 7, rfl, rfl, rfl, rfl, rfl, rfl, ?_, ?_⟩
        · exact j3_set hR hfk hkl hn' hm' hz'
        · (repeat' first | exact trivial | exact rfl | refine And.intro ?_ ?_)
          exact (wrap_nat k (by omega)).symm
        · (repeat' first | exact trivial | exact rfl | refine And.intro ?_ ?_)
      have hkl := of_decide_eq_false (show decide ((k : Int) < (at' : Int)) = false from g)
      have hkl : k = at' := by omega
      subst hkl
      intro _
      refine ⟨⟨(k + 1, l'), j3_end hat hstop hn' hm' hz'⟩, by simp only []; omega, th [] 7, rfl, rfl, rfl, rfl, rfl, rfl, ?_, ?_⟩
      · (repeat' first | exact trivial | exact rfl | refine And.intro ?_ ?_)
        exact (wrap_nat k (by omega)).symm
      · (repeat' first | exact trivial | exact rfl | refine And.intro ?_ ?_)
    have eq : ((l.getD (IntKind.i64.wrap ((fr : Int) - 1)).toNat 0) != (dir)) = false := g
    rw [eX] at eq
    have hb : dval (cc s) dir s.length fr at' = l.getD (IntKind.i64.wrap ((fr : Int) - 1)).toNat 0 := by
      have eq : rwd (cc s) dir (fr - 1) = dir := by simpa using eq
      rw [eX]; unfold dval; simp only [eq_true hf1, eq_false hal4, if_true, if_false, ite_true, ite_false]; all_goals (rw [if_pos eq])
    intro _
    refine loop2 tt_ok [13, 11] [1] 7 (fun q : J3 s dir fr at' => [(13, .int .i64 (q.1.1 : Nat)), (11, .int .i64 (dval (cc s) dir s.length fr at'))]) (fun q => [(1, .arr [.int .i64] .own (.ints q.1.2))]) (fun q => at' - q.1.1) ⟨(fr, l), Nat.le_refl _, by simp only []; omega, hn, hm, hz⟩ ?_
    intro _
    refine ⟨⟨th [] 7, rfl, rfl, rfl, rfl, rfl, rfl, ?_, ?_⟩, ?_⟩
    · (repeat' first | exact trivial | exact rfl | refine And.intro ?_ ?_)
      all_goals (exact hb)
    · (repeat' first | exact trivial | exact rfl | refine And.intro ?_ ?_)
    intro ⟨⟨k, l'⟩, hfk, hka, hn', hm', hz'⟩
    simp only [] at hfk hka hn' hm' hz'
    intro _; refine ⟨fun g => ?_, fun g => ?_⟩
    · have hkl := of_decide_eq_true (show decide ((k : Int) < (at' : Int)) = true from g)
      intro _; refine ⟨show 0 ≤ (k : Int) ∧ (k : Int) < (s.length : Int) by omega, ?_⟩
      intro _; refine ⟨show (k : Int).toNat < l'.length by omega, ?_⟩
      refine ⟨⟨(k + 1, l'.set k (dval (cc s) dir s.length fr at')), ?_⟩, by simp only []; omega, th [] 7, rfl, rfl, rfl, rfl, rfl, rfl, ?_, ?_⟩
      · exact j3_set hR hfk hkl hn' hm' hz'
      · (repeat' first | exact trivial | exact rfl | refine And.intro ?_ ?_)
        exact (wrap_nat k (by omega)).symm
      · (repeat' first | exact trivial | exact rfl | refine And.intro ?_ ?_)
    have hkl := of_decide_eq_false (show decide ((k : Int) < (at' : Int)) = false from g)
    have hkl : k = at' := by omega
    subst hkl
    intro _
    refine ⟨⟨(k + 1, l'), j3_end hat hstop hn' hm' hz'⟩, by simp only []; omega, th [] 7, rfl, rfl, rfl, rfl, rfl, rfl, ?_, ?_⟩
    · (repeat' first | exact trivial | exact rfl | refine And.intro ?_ ?_)
      exact (wrap_nat k (by omega)).symm
    · (repeat' first | exact trivial | exact rfl | refine And.intro ?_ ?_)
  have hf0 := of_decide_eq_false (show decide ((fr : Int) > 0) = false from g)
  have hf1 : ¬ 0 < fr := by omega
  intro _; refine ⟨fun g => ?_, fun g => ?_⟩
  · have hal3 := of_decide_eq_true (show decide ((at' : Int) < (s.length : Int)) = true from g)
    have hal4 : at' < s.length := by omega
    have eY : l.getD (at' : Int).toNat 0 = rwd (cc s) dir at' := hz at' hal4 h1
    intro _; refine ⟨show 0 ≤ (at' : Int) ∧ (at' : Int) < (s.length : Int) by omega, ?_⟩
    intro _; refine ⟨show (at' : Int).toNat < l.length by omega, ?_⟩
    intro _; refine ⟨fun g => ?_, fun g => ?_⟩
    · skip
      have eq : ((dir) != (l.getD (at' : Int).toNat 0)) = true := g
      rw [eY] at eq
      have hb : dval (cc s) dir s.length fr at' = dir := by
        have eq := bne_iff_ne.1 eq
        unfold dval; simp only [eq_false hf1, eq_true hal4, if_true, if_false, ite_true, ite_false]; all_goals (rw [if_neg eq])
      intro _
      refine loop2 tt_ok [13, 11] [1] 7 (fun q : J3 s dir fr at' => [(13, .int .i64 (q.1.1 : Nat)), (11, .int .i64 (dval (cc s) dir s.length fr at'))]) (fun q => [(1, .arr [.int .i64] .own (.ints q.1.2))]) (fun q => at' - q.1.1) ⟨(fr, l), Nat.le_refl _, by simp only []; omega, hn, hm, hz⟩ ?_
      intro _
      refine ⟨⟨th [] 7, rfl, rfl, rfl, rfl, rfl, rfl, ?_, ?_⟩, ?_⟩
      · (repeat' first | exact trivial | exact rfl | refine And.intro ?_ ?_)
        all_goals (exact hb)
      · (repeat' first | exact trivial | exact rfl | refine And.intro ?_ ?_)
      intro ⟨⟨k, l'⟩, hfk, hka, hn', hm', hz'⟩
      simp only [] at hfk hka hn' hm' hz'
      intro _; refine ⟨fun g => ?_, fun g => ?_⟩
      · have hkl := of_decide_eq_true (show decide ((k : Int) < (at' : Int)) = true from g)
        intro _; refine ⟨show 0 ≤ (k : Int) ∧ (k : Int) < (s.length : Int) by omega, ?_⟩
        intro _; refine ⟨show (k : Int).toNat < l'.length by omega, ?_⟩
        refine ⟨⟨(k + 1, l'.set k (dval (cc s) dir s.length fr at')), ?_⟩, by simp only []; omega, th [] 7, rfl, rfl, rfl, rfl, rfl, rfl, ?_, ?_⟩
        · exact j3_set hR hfk hkl hn' hm' hz'
        · (repeat' first | exact trivial | exact rfl | refine And.intro ?_ ?_)
          exact (wrap_nat k (by omega)).symm
        · (repeat' first | exact trivial | exact rfl | refine And.intro ?_ ?_)
      have hkl := of_decide_eq_false (show decide ((k : Int) < (at' : Int)) = false from g)
      have hkl : k = at' := by omega
      subst hkl
      intro _
      refine ⟨⟨(k + 1, l'), j3_end hat hstop hn' hm' hz'⟩, by simp only []; omega, th [] 7, rfl, rfl, rfl, rfl, rfl, rfl, ?_, ?_⟩
      · (repeat' first | exact trivial | exact rfl | refine And.intro ?_ ?_)
        exact (wrap_nat k (by omega)).symm
      · (repeat' first | exact trivial | exact rfl | refine And.intro ?_ ?_)
    have eq : ((dir) != (l.getD (at' : Int).toNat 0)) = false := g
    rw [eY] at eq
    have hb : dval (cc s) dir s.length fr at' = dir := by
      have eq : dir = rwd (cc s) dir at' := by simpa using eq
      unfold dval; simp only [eq_false hf1, eq_true hal4, if_true, if_false, ite_true, ite_false]; all_goals (rw [if_pos eq])
    intro _
    refine loop2 tt_ok [13, 11] [1] 7 (fun q : J3 s dir fr at' => [(13, .int .i64 (q.1.1 : Nat)), (11, .int .i64 (dval (cc s) dir s.length fr at'))]) (fun q => [(1, .arr [.int .i64] .own (.ints q.1.2))]) (fun q => at' - q.1.1) ⟨(fr, l), Nat.le_refl _, by simp only []; omega, hn, hm, hz⟩ ?_
    intro _
    refine ⟨⟨th [] 7, rfl, rfl, rfl, rfl, rfl, rfl, ?_, ?_⟩, ?_⟩
    · (repeat' first | exact trivial | exact rfl | refine And.intro ?_ ?_)
      all_goals (exact hb)
    · (repeat' first | exact trivial | exact rfl | refine And.intro ?_ ?_)
    intro ⟨⟨k, l'⟩, hfk, hka, hn', hm', hz'⟩
    simp only [] at hfk hka hn' hm' hz'
    intro _; refine ⟨fun g => ?_, fun g => ?_⟩
    · have hkl := of_decide_eq_true (show decide ((k : Int) < (at' : Int)) = true from g)
      intro _; refine ⟨show 0 ≤ (k : Int) ∧ (k : Int) < (s.length : Int) by omega, ?_⟩
      intro _; refine ⟨show (k : Int).toNat < l'.length by omega, ?_⟩
      refine ⟨⟨(k + 1, l'.set k (dval (cc s) dir s.length fr at')), ?_⟩, by simp only []; omega, th [] 7, rfl, rfl, rfl, rfl, rfl, rfl, ?_, ?_⟩
      · exact j3_set hR hfk hkl hn' hm' hz'
      · (repeat' first | exact trivial | exact rfl | refine And.intro ?_ ?_)
        exact (wrap_nat k (by omega)).symm
      · (repeat' first | exact trivial | exact rfl | refine And.intro ?_ ?_)
    have hkl := of_decide_eq_false (show decide ((k : Int) < (at' : Int)) = false from g)
    have hkl : k = at' := by omega
    subst hkl
    intro _
    refine ⟨⟨(k + 1, l'), j3_end hat hstop hn' hm' hz'⟩, by simp only []; omega, th [] 7, rfl, rfl, rfl, rfl, rfl, rfl, ?_, ?_⟩
    · (repeat' first | exact trivial | exact rfl | refine And.intro ?_ ?_)
      exact (wrap_nat k (by omega)).symm
    · (repeat' first | exact trivial | exact rfl | refine And.intro ?_ ?_)
  have hal3 := of_decide_eq_false (show decide ((at' : Int) < (s.length : Int)) = false from g)
  have hal4 : ¬ at' < s.length := by omega
  intro _; refine ⟨fun g => ?_, fun g => ?_⟩
  · skip
    have eq : ((dir) != (dir)) = true := g
    have hb : dval (cc s) dir s.length fr at' = dir := by
      have eq := bne_iff_ne.1 eq
      unfold dval; simp only [eq_false hf1, eq_false hal4, if_true, if_false, ite_true, ite_false]; all_goals (rw [if_neg eq])
    intro _
    refine loop2 tt_ok [13, 11] [1] 7 (fun q : J3 s dir fr at' => [(13, .int .i64 (q.1.1 : Nat)), (11, .int .i64 (dval (cc s) dir s.length fr at'))]) (fun q => [(1, .arr [.int .i64] .own (.ints q.1.2))]) (fun q => at' - q.1.1) ⟨(fr, l), Nat.le_refl _, by simp only []; omega, hn, hm, hz⟩ ?_
    intro _
    refine ⟨⟨th [] 7, rfl, rfl, rfl, rfl, rfl, rfl, ?_, ?_⟩, ?_⟩
    · (repeat' first | exact trivial | exact rfl | refine And.intro ?_ ?_)
      all_goals (exact hb)
    · (repeat' first | exact trivial | exact rfl | refine And.intro ?_ ?_)
    intro ⟨⟨k, l'⟩, hfk, hka, hn', hm', hz'⟩
    simp only [] at hfk hka hn' hm' hz'
    intro _; refine ⟨fun g => ?_, fun g => ?_⟩
    · have hkl := of_decide_eq_true (show decide ((k : Int) < (at' : Int)) = true from g)
      intro _; refine ⟨show 0 ≤ (k : Int) ∧ (k : Int) < (s.length : Int) by omega, ?_⟩
      intro _; refine ⟨show (k : Int).toNat < l'.length by omega, ?_⟩
      refine ⟨⟨(k + 1, l'.set k (dval (cc s) dir s.length fr at')), ?_⟩, by simp only []; omega, th [] 7, rfl, rfl, rfl, rfl, rfl, rfl, ?_, ?_⟩
      · exact j3_set hR hfk hkl hn' hm' hz'
      · (repeat' first | exact trivial | exact rfl | refine And.intro ?_ ?_)
        exact (wrap_nat k (by omega)).symm
      · (repeat' first | exact trivial | exact rfl | refine And.intro ?_ ?_)
    have hkl := of_decide_eq_false (show decide ((k : Int) < (at' : Int)) = false from g)
    have hkl : k = at' := by omega
    subst hkl
    intro _
    refine ⟨⟨(k + 1, l'), j3_end hat hstop hn' hm' hz'⟩, by simp only []; omega, th [] 7, rfl, rfl, rfl, rfl, rfl, rfl, ?_, ?_⟩
    · (repeat' first | exact trivial | exact rfl | refine And.intro ?_ ?_)
      exact (wrap_nat k (by omega)).symm
    · (repeat' first | exact trivial | exact rfl | refine And.intro ?_ ?_)
  have eq : ((dir) != (dir)) = false := g
  have hb : dval (cc s) dir s.length fr at' = dir := by
    have eq : dir = dir := by simpa using eq
    unfold dval; simp only [eq_false hf1, eq_false hal4, if_true, if_false, ite_true, ite_false]; all_goals (rw [if_pos eq])
  intro _
  refine loop2 tt_ok [13, 11] [1] 7 (fun q : J3 s dir fr at' => [(13, .int .i64 (q.1.1 : Nat)), (11, .int .i64 (dval (cc s) dir s.length fr at'))]) (fun q => [(1, .arr [.int .i64] .own (.ints q.1.2))]) (fun q => at' - q.1.1) ⟨(fr, l), Nat.le_refl _, by simp only []; omega, hn, hm, hz⟩ ?_
  intro _
  refine ⟨⟨th [] 7, rfl, rfl, rfl, rfl, rfl, rfl, ?_, ?_⟩, ?_⟩
  · (repeat' first | exact trivial | exact rfl | refine And.intro ?_ ?_)
    all_goals (exact hb)
  · (repeat' first | exact trivial | exact rfl | refine And.intro ?_ ?_)
  intro ⟨⟨k, l'⟩, hfk, hka, hn', hm', hz'⟩
  simp only [] at hfk hka hn' hm' hz'
  intro _; refine ⟨fun g => ?_, fun g => ?_⟩
  · have hkl := of_decide_eq_true (show decide ((k : Int) < (at' : Int)) = true from g)
    intro _; refine ⟨show 0 ≤ (k : Int) ∧ (k : Int) < (s.length : Int) by omega, ?_⟩
    intro _; refine ⟨show (k : Int).toNat < l'.length by omega, ?_⟩
    refine ⟨⟨(k + 1, l'.set k (dval (cc s) dir s.length fr at')), ?_⟩, by simp only []; omega, th [] 7, rfl, rfl, rfl, rfl, rfl, rfl, ?_, ?_⟩
    · exact j3_set hR hfk hkl hn' hm' hz'
    · (repeat' first | exact trivial | exact rfl | refine And.intro ?_ ?_)
      exact (wrap_nat k (by omega)).symm
    · (repeat' first | exact trivial | exact rfl | refine And.intro ?_ ?_)
  have hkl := of_decide_eq_false (show decide ((k : Int) < (at' : Int)) = false from g)
  have hkl : k = at' := by omega
  subst hkl
  intro _
  refine ⟨⟨(k + 1, l'), j3_end hat hstop hn' hm' hz'⟩, by simp only []; omega, th [] 7, rfl, rfl, rfl, rfl, rfl, rfl, ?_, ?_⟩
  · (repeat' first | exact trivial | exact rfl | refine And.intro ?_ ?_)
    exact (wrap_nat k (by omega)).symm
  · (repeat' first | exact trivial | exact rfl | refine And.intro ?_ ?_)
def LL (s : List UInt8) (dir : Int) : List Int := mk s.length (lev (cc s) dir s.length)
abbrev J4 (s : List UInt8) (dir : Int) := { p : Nat × List Int // p.1 ≤ s.length ∧ p.2.length = s.length ∧ (∀ i, i < p.1 → gt p.2 i = lev (cc s) dir s.length i) ∧ ∀ i, i < s.length → p.1 ≤ i → gt p.2 i = dd (cc s) dir s.length i }
theorem j4_set {s : List UInt8} {dir : Int} {l' : List Int} {k : Nat} {v : Int} (hk : k < s.length) (hn : l'.length = s.length) (hm : ∀ i, i < k → gt l' i = lev (cc s) dir s.length i) (hr : ∀ i, i < s.length → k ≤ i → gt l' i = dd (cc s) dir s.length i) (h : v = lev (cc s) dir s.length k) :
    k + 1 ≤ s.length ∧ (l'.set k v).length = s.length ∧ (∀ i, i < k + 1 → gt (l'.set k v) i = lev (cc s) dir s.length i) ∧ ∀ i, i < s.length → k + 1 ≤ i → gt (l'.set k v) i = dd (cc s) dir s.length i := by
  refine ⟨by omega, by simp [hn], fun i hi => ?_, fun i hi h2 => ?_⟩
  · rw [gt_set (by omega)]
    by_cases e : i = k
    · rw [if_pos e, e]; exact h
    · rw [if_neg e]; exact hm i (by omega)
  · rw [gt_set (by omega), if_neg (by omega)]; exact hr i hi (by omega)
set_option maxHeartbeats 4000000 in
theorem levels_ok (s : List UInt8) (dir : Int) (hV : VA s) (hd : dir = 0 ∨ dir = 1) : SemF Try.prog 25 [.str s, .int .i64 dir] ⟨0, 0, []⟩ (fun v h' => v = .grw 0 (LL s dir).length ∧ h' = ⟨1, 0, [(0, .arr [.int .i64] .own (.ints (LL s dir)))]⟩) := by
  have hl := hV.1
  refine SemF.ret ?_
  refine enter tt_ok Try.func25 (nt := 44) (cd := body Try.f25) rfl rfl rfl rfl ?_
  rcases hd with rfl | rfl
  · skip
    intro _; refine ⟨fun g => absurd (show ((0 : Int) == 1) = true from g) (by decide), fun _ => ?_⟩
    intro _
    refine call_new [] (dirs_ok s 0 hV (by decide)) rfl rfl rfl rfl ?_ ?_ ?_
    · (repeat' first | exact trivial | exact rfl | refine And.intro ?_ ?_)
    · (repeat' first | exact trivial | exact rfl | refine And.intro ?_ ?_)
    intro v h' hv
    obtain ⟨rfl, rfl⟩ := hv
    refine ⟨[(2, some 0)], 3, [(2, .arr [.int .i64] .own (.ints (DL s 0)))], .grw 2 (DL s 0).length, rfl, rfl, rfl, rfl, rfl, ?_, ?_, ?_⟩
    · (repeat' first | exact trivial | exact rfl | refine And.intro ?_ ?_)
    · (repeat' first | exact trivial | exact rfl | refine And.intro ?_ ?_)
    have hDL : (DL s 0).length = s.length := mk_len _ _
    intro _
    refine loop2 tt_ok [21] [2] 3 (fun k : J4 s 0 => [(21, .int .i64 (k.1.1 : Nat))]) (fun k => [(2, .arr [.int .i64] .own (.ints k.1.2))]) (fun k => s.length - k.1.1) ⟨(0, DL s 0), by simp only []; omega, hDL, fun i h => by simp only [] at h; omega, fun i hi _ => gt_mk _ hi⟩ ?_
    intro _
    refine ⟨⟨th [] 3, rfl, rfl, rfl, rfl, rfl, rfl, ?_, ?_⟩, ?_⟩
    · (repeat' first | exact trivial | exact rfl | refine And.intro ?_ ?_)
    · (repeat' first | exact trivial | exact rfl | refine And.intro ?_ ?_)
    intro ⟨⟨k, l'⟩, hk, hn', hm', hr⟩
    simp only [] at hk hn' hm' hr
    intro _; refine ⟨fun g => ?_, fun g => ?_⟩
    rotate_left
    · have hkl := of_decide_eq_false (show decide ((k : Int) < ((DL s 0).length : Int)) = false from g)
      have hkl : k = s.length := by omega
      have e : l' = LL s 0 := mk_of hn' fun i hi => hm' i (by omega)
      subst e
      intro _
      refine ⟨[(0, some 2)], .grw 0 (LL s 0).length, ⟨1, 0, [(0, .arr [.int .i64] .own (.ints (LL s 0)))]⟩, rfl, rfl, rfl, rfl, ?_, ?_, ⟨rfl, rfl⟩⟩
      · (repeat' first | exact trivial | exact rfl | refine And.intro ?_ ?_)
        all_goals (show (LL s 0).length = (DL s 0).length; omega)
      · (repeat' first | exact trivial | exact rfl | refine And.intro ?_ ?_)
    have hkl := of_decide_eq_true (show decide ((k : Int) < ((DL s 0).length : Int)) = true from g)
    have hks : k < s.length := by omega
    have eg : l'.getD (k : Int).toNat 0 = dd (cc s) 0 s.length k := hr k hks (Nat.le_refl _)
    have hd01 := dd01 (c := cc s) (dir := 0) (n := s.length) (by decide) hks
    intro _; refine ⟨show 0 ≤ (k : Int) ∧ (k : Int) < ((DL s 0).length : Int) by omega, ?_⟩
    intro _; refine ⟨show (k : Int).toNat < l'.length by omega, ?_⟩
    intro _; refine ⟨show 0 ≤ (k : Int) ∧ (k : Int) < (s.length : Int) by omega, ?_⟩
    intro _
    refine call_pure [] (isdig_ok (by' s k) (by_bd s k)) rfl rfl rfl ?_ ?_ ?_
    · (repeat' first | exact trivial | exact rfl | refine And.intro ?_ ?_)
    · (repeat' first | exact trivial | exact rfl | refine And.intro ?_ ?_)
    intro v hv _
    subst hv
    intro _; refine ⟨fun g => ?_, fun g => ?_⟩
    · have g : (cl (by' s k) == 3) = true := g
      have g3 : cc s k = 3 := by simpa using g
      rcases hd01 with hg | hg
      · skip
        intro _; refine ⟨0, by rw [eg]; exact hg, ?_⟩
        intro _; refine ⟨show 0 ≤ (k : Int) ∧ (k : Int) < ((DL s 0).length : Int) by omega, ?_⟩
        intro _; refine ⟨show (k : Int).toNat < l'.length by omega, ?_⟩
        refine ⟨⟨(k + 1, l'.set k 0), j4_set hks hn' hm' hr (by unfold lev; rw [hg]; simp only [eq_true g3, eq_self, if_true, if_false, ite_true, ite_false]; all_goals decide)⟩, by simp only []; omega, th [] 3, rfl, rfl, rfl, rfl, rfl, rfl, ?_, ?_⟩
        · (repeat' first | exact trivial | exact rfl | refine And.intro ?_ ?_)
          exact (wrap_nat k (by omega)).symm
        · (repeat' first | exact trivial | exact rfl | refine And.intro ?_ ?_)
      · skip
        intro _; refine ⟨1, by rw [eg]; exact hg, ?_⟩
        intro _; refine ⟨show 0 ≤ (k : Int) ∧ (k : Int) < ((DL s 0).length : Int) by omega, ?_⟩
        intro _; refine ⟨show (k : Int).toNat < l'.length by omega, ?_⟩
        refine ⟨⟨(k + 1, l'.set k 2), j4_set hks hn' hm' hr (by unfold lev; rw [hg]; simp only [eq_true g3, eq_self, if_true, if_false, ite_true, ite_false]; all_goals decide)⟩, by simp only []; omega, th [] 3, rfl, rfl, rfl, rfl, rfl, rfl, ?_, ?_⟩
        · (repeat' first | exact trivial | exact rfl | refine And.intro ?_ ?_)
          exact (wrap_nat k (by omega)).symm
        · (repeat' first | exact trivial | exact rfl | refine And.intro ?_ ?_)
    · have g : (cl (by' s k) == 3) = false := g
      have g3 : ¬ cc s k = 3 := by simpa using g
      rcases hd01 with hg | hg
      · skip
        intro _; refine ⟨0, by rw [eg]; exact hg, ?_⟩
        intro _; refine ⟨show 0 ≤ (k : Int) ∧ (k : Int) < ((DL s 0).length : Int) by omega, ?_⟩
        intro _; refine ⟨show (k : Int).toNat < l'.length by omega, ?_⟩
        refine ⟨⟨(k + 1, l'.set k 0), j4_set hks hn' hm' hr (by unfold lev; rw [hg]; simp only [eq_false g3, eq_self, if_true, if_false, ite_true, ite_false]; all_goals decide)⟩, by simp only []; omega, th [] 3, rfl, rfl, rfl, rfl, rfl, rfl, ?_, ?_⟩
        · (repeat' first | exact trivial | exact rfl | refine And.intro ?_ ?_)
          exact (wrap_nat k (by omega)).symm
        · (repeat' first | exact trivial | exact rfl | refine And.intro ?_ ?_)
      · skip
        intro _; refine ⟨1, by rw [eg]; exact hg, ?_⟩
        intro _; refine ⟨show 0 ≤ (k : Int) ∧ (k : Int) < ((DL s 0).length : Int) by omega, ?_⟩
        intro _; refine ⟨show (k : Int).toNat < l'.length by omega, ?_⟩
        refine ⟨⟨(k + 1, l'.set k 1), j4_set hks hn' hm' hr (by unfold lev; rw [hg]; simp only [eq_false g3, eq_self, if_true, if_false, ite_true, ite_false]; all_goals decide)⟩, by simp only []; omega, th [] 3, rfl, rfl, rfl, rfl, rfl, rfl, ?_, ?_⟩
        · (repeat' first | exact trivial | exact rfl | refine And.intro ?_ ?_)
          exact (wrap_nat k (by omega)).symm
        · (repeat' first | exact trivial | exact rfl | refine And.intro ?_ ?_)
  · skip
    intro _; refine ⟨fun _ => ?_, fun g => absurd (show ((1 : Int) == 1) = false from g) (by decide)⟩
    intro _
    refine call_new [] (dirs_ok s 1 hV (by decide)) rfl rfl rfl rfl ?_ ?_ ?_
    · (repeat' first | exact trivial | exact rfl | refine And.intro ?_ ?_)
    · (repeat' first | exact trivial | exact rfl | refine And.intro ?_ ?_)
    intro v h' hv
    obtain ⟨rfl, rfl⟩ := hv
    refine ⟨[(2, some 0)], 3, [(2, .arr [.int .i64] .own (.ints (DL s 1)))], .grw 2 (DL s 1).length, rfl, rfl, rfl, rfl, rfl, ?_, ?_, ?_⟩
    · (repeat' first | exact trivial | exact rfl | refine And.intro ?_ ?_)
    · (repeat' first | exact trivial | exact rfl | refine And.intro ?_ ?_)
    have hDL : (DL s 1).length = s.length := mk_len _ _
    intro _
    refine loop2 tt_ok [21] [2] 3 (fun k : J4 s 1 => [(21, .int .i64 (k.1.1 : Nat))]) (fun k => [(2, .arr [.int .i64] .own (.ints k.1.2))]) (fun k => s.length - k.1.1) ⟨(0, DL s 1), by simp only []; omega, hDL, fun i h => by simp only [] at h; omega, fun i hi _ => gt_mk _ hi⟩ ?_
    intro _
    refine ⟨⟨th [] 3, rfl, rfl, rfl, rfl, rfl, rfl, ?_, ?_⟩, ?_⟩
    · (repeat' first | exact trivial | exact rfl | refine And.intro ?_ ?_)
    · (repeat' first | exact trivial | exact rfl | refine And.intro ?_ ?_)
    intro ⟨⟨k, l'⟩, hk, hn', hm', hr⟩
    simp only [] at hk hn' hm' hr
    intro _; refine ⟨fun g => ?_, fun g => ?_⟩
    rotate_left
    · have hkl := of_decide_eq_false (show decide ((k : Int) < ((DL s 1).length : Int)) = false from g)
      have hkl : k = s.length := by omega
      have e : l' = LL s 1 := mk_of hn' fun i hi => hm' i (by omega)
      subst e
      intro _
      refine ⟨[(0, some 2)], .grw 0 (LL s 1).length, ⟨1, 0, [(0, .arr [.int .i64] .own (.ints (LL s 1)))]⟩, rfl, rfl, rfl, rfl, ?_, ?_, ⟨rfl, rfl⟩⟩
      · (repeat' first | exact trivial | exact rfl | refine And.intro ?_ ?_)
        all_goals (show (LL s 1).length = (DL s 1).length; omega)
      · (repeat' first | exact trivial | exact rfl | refine And.intro ?_ ?_)
    have hkl := of_decide_eq_true (show decide ((k : Int) < ((DL s 1).length : Int)) = true from g)
    have hks : k < s.length := by omega
    have eg : l'.getD (k : Int).toNat 0 = dd (cc s) 1 s.length k := hr k hks (Nat.le_refl _)
    have hd01 := dd01 (c := cc s) (dir := 1) (n := s.length) (by decide) hks
    intro _; refine ⟨show 0 ≤ (k : Int) ∧ (k : Int) < ((DL s 1).length : Int) by omega, ?_⟩
    intro _; refine ⟨show (k : Int).toNat < l'.length by omega, ?_⟩
    intro _; refine ⟨show 0 ≤ (k : Int) ∧ (k : Int) < (s.length : Int) by omega, ?_⟩
    intro _
    refine call_pure [] (isdig_ok (by' s k) (by_bd s k)) rfl rfl rfl ?_ ?_ ?_
    · (repeat' first | exact trivial | exact rfl | refine And.intro ?_ ?_)
    · (repeat' first | exact trivial | exact rfl | refine And.intro ?_ ?_)
    intro v hv _
    subst hv
    intro _; refine ⟨fun g => ?_, fun g => ?_⟩
    · have g : (cl (by' s k) == 3) = true := g
      have g3 : cc s k = 3 := by simpa using g
      rcases hd01 with hg | hg
      · skip
        intro _; refine ⟨0, by rw [eg]; exact hg, ?_⟩
        intro _; refine ⟨show 0 ≤ (k : Int) ∧ (k : Int) < ((DL s 1).length : Int) by omega, ?_⟩
        intro _; refine ⟨show (k : Int).toNat < l'.length by omega, ?_⟩
        refine ⟨⟨(k + 1, l'.set k 2), j4_set hks hn' hm' hr (by unfold lev; rw [hg]; simp only [eq_true g3, eq_self, if_true, if_false, ite_true, ite_false]; all_goals decide)⟩, by simp only []; omega, th [] 3, rfl, rfl, rfl, rfl, rfl, rfl, ?_, ?_⟩
        · (repeat' first | exact trivial | exact rfl | refine And.intro ?_ ?_)
          exact (wrap_nat k (by omega)).symm
        · (repeat' first | exact trivial | exact rfl | refine And.intro ?_ ?_)
      · skip
        intro _; refine ⟨1, by rw [eg]; exact hg, ?_⟩
        intro _; refine ⟨show 0 ≤ (k : Int) ∧ (k : Int) < ((DL s 1).length : Int) by omega, ?_⟩
        intro _; refine ⟨show (k : Int).toNat < l'.length by omega, ?_⟩
        refine ⟨⟨(k + 1, l'.set k 2), j4_set hks hn' hm' hr (by unfold lev; rw [hg]; simp only [eq_true g3, eq_self, if_true, if_false, ite_true, ite_false]; all_goals decide)⟩, by simp only []; omega, th [] 3, rfl, rfl, rfl, rfl, rfl, rfl, ?_, ?_⟩
        · (repeat' first | exact trivial | exact rfl | refine And.intro ?_ ?_)
          exact (wrap_nat k (by omega)).symm
        · (repeat' first | exact trivial | exact rfl | refine And.intro ?_ ?_)
    · have g : (cl (by' s k) == 3) = false := g
      have g3 : ¬ cc s k = 3 := by simpa using g
      rcases hd01 with hg | hg
      · skip
        intro _; refine ⟨0, by rw [eg]; exact hg, ?_⟩
        intro _; refine ⟨show 0 ≤ (k : Int) ∧ (k : Int) < ((DL s 1).length : Int) by omega, ?_⟩
        intro _; refine ⟨show (k : Int).toNat < l'.length by omega, ?_⟩
        refine ⟨⟨(k + 1, l'.set k 2), j4_set hks hn' hm' hr (by unfold lev; rw [hg]; simp only [eq_false g3, eq_self, if_true, if_false, ite_true, ite_false]; all_goals decide)⟩, by simp only []; omega, th [] 3, rfl, rfl, rfl, rfl, rfl, rfl, ?_, ?_⟩
        · (repeat' first | exact trivial | exact rfl | refine And.intro ?_ ?_)
          exact (wrap_nat k (by omega)).symm
        · (repeat' first | exact trivial | exact rfl | refine And.intro ?_ ?_)
      · skip
        intro _; refine ⟨1, by rw [eg]; exact hg, ?_⟩
        intro _; refine ⟨show 0 ≤ (k : Int) ∧ (k : Int) < ((DL s 1).length : Int) by omega, ?_⟩
        intro _; refine ⟨show (k : Int).toNat < l'.length by omega, ?_⟩
        refine ⟨⟨(k + 1, l'.set k 1), j4_set hks hn' hm' hr (by unfold lev; rw [hg]; simp only [eq_false g3, eq_self, if_true, if_false, ite_true, ite_false]; all_goals decide)⟩, by simp only []; omega, th [] 3, rfl, rfl, rfl, rfl, rfl, rfl, ?_, ?_⟩
        · (repeat' first | exact trivial | exact rfl | refine And.intro ?_ ?_)
          exact (wrap_nat k (by omega)).symm
        · (repeat' first | exact trivial | exact rfl | refine And.intro ?_ ?_)
theorem line_ok (s : List UInt8) (dir : Int) (hl : s.length ≤ 9223372036854775807) : SemF Try.prog 18 [.str s, .int .i64 dir] ⟨0, 0, []⟩ (fun v _ => v = .test (decide (VA s ∧ (dir = 0 ∨ dir = 1))) ∧ nameless v = true) := by
  refine SemF.test ?_
  refine enter tt_ok Try.func18 (nt := 15) (cd := body Try.f18) rfl rfl rfl rfl ?_
  intro _
  refine call_pure [] (rvalid_ok s hl) rfl rfl rfl ?_ ?_ ?_
  · (repeat' first | exact trivial | exact rfl | refine And.intro ?_ ?_)
  · (repeat' first | exact trivial | exact rfl | refine And.intro ?_ ?_)
  intro v hv _
  subst hv
  intro _; refine ⟨fun g => ?_, fun g => ?_⟩
  rotate_left
  · have g := of_decide_eq_false (show decide (VA s) = false from g)
    intro _
    exact ⟨false, .inl rfl, by rw [decide_eq_false (fun h => g h.1)], rfl⟩
  have hV := of_decide_eq_true (show decide (VA s) = true from g)
  intro _; refine ⟨fun g => ?_, fun g => ?_⟩
  · have g : (dir == 0) = true := g
    have g : dir = 0 := by simpa using g
    intro _
    exact ⟨true, .inl rfl, by rw [decide_eq_true ⟨hV, .inl g⟩], rfl⟩
  have g : (dir == 0) = false := g
  have g0 : ¬ dir = 0 := by simpa using g
  intro _
  refine ⟨_, .inr rfl, ?_, rfl⟩
  show V.test (dir == 1) = _
  by_cases e : dir = 1
  · rw [decide_eq_true ⟨hV, .inr e⟩, e]; rfl
  · rw [decide_eq_false (fun h => h.2.elim g0 e), beq_eq_false_iff_ne.2 e]
theorem Levels_ok (s : List UInt8) (dir : Int) (hV : VA s) (hd : dir = 0 ∨ dir = 1) : SemF Try.prog 11 [.str s, .int .i64 dir] ⟨0, 0, []⟩ (fun v h' => v = .tup [.grw 0 (LL s dir).length, .int .i64 0] ∧ h' = ⟨1, 0, [(0, .arr [.int .i64] .own (.ints (LL s dir)))]⟩) := by
  refine enter tt_ok Try.func11 (nt := 20) (cd := body Try.f11) rfl rfl rfl rfl ?_
  intro _
  refine call_pure [] (valid_ok s (by have := hV.1; omega)) rfl rfl rfl ?_ ?_ ?_
  · (repeat' first | exact trivial | exact rfl | refine And.intro ?_ ?_)
  · (repeat' first | exact trivial | exact rfl | refine And.intro ?_ ?_)
  intro v hv _
  subst hv
  intro _; refine ⟨fun g => ?_, fun g => ?_⟩
  · exfalso
    have g : (!decide (VA s)) = true := g
    rw [Bool.not_eq_true'] at g
    exact of_decide_eq_false g hV
  intro _; refine ⟨fun g => ?_, fun g => ?_⟩
  · exfalso
    have g := of_decide_eq_true (show decide (dir < 0) = true from g)
    omega
  intro _; refine ⟨fun g => ?_, fun g => ?_⟩
  · exfalso
    have g := of_decide_eq_true (show decide (dir > 1) = true from g)
    omega
  intro _
  refine call_new [] (levels_ok s dir hV hd) rfl rfl rfl rfl ?_ ?_ ?_
  · (repeat' first | exact trivial | exact rfl | refine And.intro ?_ ?_)
  · (repeat' first | exact trivial | exact rfl | refine And.intro ?_ ?_)
  intro v h' hv
  obtain ⟨rfl, rfl⟩ := hv
  refine ⟨[(0, some 0)], 1, [(0, .arr [.int .i64] .own (.ints (LL s dir)))], .grw 0 (LL s dir).length, rfl, rfl, rfl, rfl, rfl, ?_, ?_, ?_⟩
  · (repeat' first | exact trivial | exact rfl | refine And.intro ?_ ?_)
  · (repeat' first | exact trivial | exact rfl | refine And.intro ?_ ?_)
  intro _
  exact ⟨rfl, rfl⟩
theorem Levels_err (s : List UInt8) (dir : Int) (hl : s.length ≤ 9223372036854775807) (hE : ¬ (VA s ∧ (dir = 0 ∨ dir = 1))) : SemF Try.prog 11 [.str s, .int .i64 dir] ⟨0, 0, []⟩ (fun v _ => v = .tup [.nils, .int .i64 1] ∧ nameless v = true) := by
  refine enter tt_ok Try.func11 (nt := 20) (cd := body Try.f11) rfl rfl rfl rfl ?_
  intro _
  refine call_pure [] (valid_ok s hl) rfl rfl rfl ?_ ?_ ?_
  · (repeat' first | exact trivial | exact rfl | refine And.intro ?_ ?_)
  · (repeat' first | exact trivial | exact rfl | refine And.intro ?_ ?_)
  intro v hv _
  subst hv
  intro _; refine ⟨fun g => ?_, fun g => ?_⟩
  · intro _
    exact ⟨rfl, rfl⟩
  have g : (!decide (VA s)) = false := g
  rw [Bool.not_eq_false'] at g
  have hV := of_decide_eq_true g
  intro _; refine ⟨fun g => ?_, fun g => ?_⟩
  · intro _
    exact ⟨rfl, rfl⟩
  have g1 := of_decide_eq_false (show decide (dir < 0) = false from g)
  intro _; refine ⟨fun g => ?_, fun g => ?_⟩
  · intro _
    exact ⟨rfl, rfl⟩
  have g2 := of_decide_eq_false (show decide (dir > 1) = false from g)
  exact absurd ⟨hV, by omega⟩ hE
/-- the order, when j levels are turned -/
def ph (s : List UInt8) (dir : Int) (j k : Nat) : Nat := if j = 0 then k else if j = 1 then rv (PL (cc s) dir s.length 2) s.length k else od (cc s) dir s.length k
/-- what the next level turns -/
def pr (s : List UInt8) (dir : Int) (j k : Nat) : Bool := PL (cc s) dir s.length (2 - (j : Int)) k
theorem ph_next {s : List UInt8} {dir : Int} {j k : Nat} (hj : j < 2) : ph s dir (j + 1) k = ph s dir j (rv (pr s dir j) s.length k) := by
  have : j = 0 ∨ j = 1 := by omega
  rcases this with rfl | rfl
  · rfl
  · rfl
def OL (s : List UInt8) (dir : Int) : List Int := mk s.length fun k => (od (cc s) dir s.length k : Nat)
abbrev J5 (s : List UInt8) (dir : Int) (j : Nat) := { p : Nat × List Int // p.1 ≤ s.length + 1 ∧ p.2.length = s.length ∧ (∀ i, i < s.length → i < p.1 → gt p.2 i = (ph s dir j (rv (pr s dir j) s.length i) : Nat)) ∧ (∀ i, i < s.length → p.1 ≤ i → gt p.2 i = (ph s dir j i : Nat)) ∧ (p.1 ≤ s.length → p.1 = 0 ∨ pr s dir j (p.1 - 1) = false) }
abbrev J6 (s : List UInt8) (dir : Int) (j fr at' : Nat) := { q : Nat × List Int // 2 * q.1 ≤ at' - fr ∧ q.2.length = s.length ∧ (∀ i, i < s.length → i < fr + q.1 → gt q.2 i = (ph s dir j (rv (pr s dir j) s.length i) : Nat)) ∧ (∀ i, i < at' → at' ≤ i + q.1 → gt q.2 i = (ph s dir j (rv (pr s dir j) s.length i) : Nat)) ∧ (∀ i, i < s.length → fr + q.1 ≤ i → i + q.1 < at' ∨ at' ≤ i → gt q.2 i = (ph s dir j i : Nat)) }
theorem j6_set {s : List UInt8} {dir : Int} {j fr at' i : Nat} {o : List Int} (r : Run (pr s dir j) s.length fr at') (h1 : 2 * i ≤ at' - fr) (hij : 2 * i + 1 < at' - fr) (hn : o.length = s.length) (hA : ∀ x, x < s.length → x < fr + i → gt o x = (ph s dir j (rv (pr s dir j) s.length x) : Nat)) (hB : ∀ x, x < at' → at' ≤ x + i → gt o x = (ph s dir j (rv (pr s dir j) s.length x) : Nat)) (hC : ∀ x, x < s.length → fr + i ≤ x → x + i < at' ∨ at' ≤ x → gt o x = (ph s dir j x : Nat)) :
    2 * (i + 1) ≤ at' - fr ∧ ((o.set (fr + i) (gt o (at' - 1 - i))).set (at' - 1 - i) (gt o (fr + i))).length = s.length ∧ (∀ x, x < s.length → x < fr + (i + 1) → gt ((o.set (fr + i) (gt o (at' - 1 - i))).set (at' - 1 - i) (gt o (fr + i))) x = (ph s dir j (rv (pr s dir j) s.length x) : Nat)) ∧ (∀ x, x < at' → at' ≤ x + (i + 1) → gt ((o.set (fr + i) (gt o (at' - 1 - i))).set (at' - 1 - i) (gt o (fr + i))) x = (ph s dir j (rv (pr s dir j) s.length x) : Nat)) ∧ (∀ x, x < s.length → fr + (i + 1) ≤ x → x + (i + 1) < at' ∨ at' ≤ x → gt ((o.set (fr + i) (gt o (at' - 1 - i))).set (at' - 1 - i) (gt o (fr + i))) x = (ph s dir j x : Nat)) := by
  have hat := r.bn
  have e1 : gt o (at' - 1 - i) = (ph s dir j (at' - 1 - i) : Nat) := hC _ (by omega) (by omega) (.inl (by omega))
  have e2 : gt o (fr + i) = (ph s dir j (fr + i) : Nat) := hC _ (by omega) (by omega) (.inl (by omega))
  have r1 : rv (pr s dir j) s.length (fr + i) = at' - 1 - i := by rw [rv_run r (by omega) (by omega)]; omega
  have r2 : rv (pr s dir j) s.length (at' - 1 - i) = fr + i := by rw [rv_run r (by omega) (by omega)]; omega
  have G : ∀ x, gt ((o.set (fr + i) (gt o (at' - 1 - i))).set (at' - 1 - i) (gt o (fr + i))) x = if x = at' - 1 - i then gt o (fr + i) else if x = fr + i then gt o (at' - 1 - i) else gt o x := fun x => by
    rw [gt_set (by simp; omega), gt_set (by omega)]
  refine ⟨by omega, by simp [hn], fun x hx h => ?_, fun x hx h => ?_, fun x hx h h' => ?_⟩
  · rw [G]
    by_cases e : x = at' - 1 - i
    · omega
    rw [if_neg e]
    by_cases e3 : x = fr + i
    · rw [if_pos e3, e3, r1]; exact e1
    · rw [if_neg e3]; exact hA x hx (by omega)
  · rw [G]
    by_cases e : x = at' - 1 - i
    · rw [if_pos e, e, r2]; exact e2
    rw [if_neg e, if_neg (by omega)]
    exact hB x hx (by omega)
  · rw [G, if_neg (by omega), if_neg (by omega)]
    exact hC x hx (by omega) (by omega)
theorem j5_end {s : List UInt8} {dir : Int} {j at' : Nat} {o : List Int} (hat : at' ≤ s.length) (hstop : at' < s.length → pr s dir j at' = false) (hn : o.length = s.length) (hm : ∀ i, i < s.length → i < at' → gt o i = (ph s dir j (rv (pr s dir j) s.length i) : Nat)) (hz : ∀ i, i < s.length → at' ≤ i → gt o i = (ph s dir j i : Nat)) :
    at' + 1 ≤ s.length + 1 ∧ o.length = s.length ∧ (∀ i, i < s.length → i < at' + 1 → gt o i = (ph s dir j (rv (pr s dir j) s.length i) : Nat)) ∧ (∀ i, i < s.length → at' + 1 ≤ i → gt o i = (ph s dir j i : Nat)) ∧ (at' + 1 ≤ s.length → at' + 1 = 0 ∨ pr s dir j (at' + 1 - 1) = false) := by
  refine ⟨by omega, hn, fun i hi h2 => ?_, fun i hi h2 => hz i hi (by omega), fun h => .inr (hstop (by omega))⟩
  by_cases e : i = at'
  · rw [e, rv_out (hstop (by omega))]; exact hz at' (by omega) (Nat.le_refl _)
  · exact hm i hi (by omega)
theorem j6_end {s : List UInt8} {dir : Int} {j fr at' i : Nat} {o : List Int} (r : Run (pr s dir j) s.length fr at') (hlt : fr < at') (h1 : 2 * i ≤ at' - fr) (hij : ¬ 2 * i + 1 < at' - fr) (hstop : at' < s.length → pr s dir j at' = false) (hn : o.length = s.length) (hA : ∀ x, x < s.length → x < fr + i → gt o x = (ph s dir j (rv (pr s dir j) s.length x) : Nat)) (hB : ∀ x, x < at' → at' ≤ x + i → gt o x = (ph s dir j (rv (pr s dir j) s.length x) : Nat)) (hC : ∀ x, x < s.length → fr + i ≤ x → x + i < at' ∨ at' ≤ x → gt o x = (ph s dir j x : Nat)) :
    at' + 1 ≤ s.length + 1 ∧ o.length = s.length ∧ (∀ i, i < s.length → i < at' + 1 → gt o i = (ph s dir j (rv (pr s dir j) s.length i) : Nat)) ∧ (∀ i, i < s.length → at' + 1 ≤ i → gt o i = (ph s dir j i : Nat)) ∧ (at' + 1 ≤ s.length → at' + 1 = 0 ∨ pr s dir j (at' + 1 - 1) = false) := by
  have hat := r.bn
  refine j5_end hat hstop hn (fun x hx h => ?_) (fun x hx h => hC x hx (by omega) (.inr h))
  by_cases e : x < fr + i
  · exact hA x hx e
  by_cases e2 : at' ≤ x + i
  · exact hB x h e2
  have r1 : rv (pr s dir j) s.length x = x := by rw [rv_run r (by omega) h]; omega
  rw [r1]
  exact hC x hx (by omega) (.inl (by omega))
set_option maxHeartbeats 4000000 in
theorem Order_ok (s : List UInt8) (dir : Int) (hV : VA s) (hd : dir = 0 ∨ dir = 1) : SemF Try.prog 14 [.str s, .int .i64 dir] ⟨0, 0, []⟩ (fun v h' => v = .tup [.grw 0 (OL s dir).length, .int .i64 0] ∧ h' = ⟨1, 0, [(0, .arr [.int .i64] .own (.ints (OL s dir)))]⟩) := by
  have hl := hV.1
  have hLL : (LL s dir).length = s.length := mk_len _ _
  refine SemF.ret ?_
  refine enter tt_ok Try.func14 (nt := 51) (cd := body Try.f14) rfl rfl rfl rfl ?_
  intro _
  refine call_new [] (Levels_ok s dir hV hd) rfl rfl rfl rfl ?_ ?_ ?_
  · (repeat' first | exact trivial | exact rfl | refine And.intro ?_ ?_)
  · (repeat' first | exact trivial | exact rfl | refine And.intro ?_ ?_)
  intro v h' hv
  obtain ⟨rfl, rfl⟩ := hv
  refine ⟨[(0, some 0)], 1, [(0, .arr [.int .i64] .own (.ints (LL s dir)))], .tup [.grw 0 (LL s dir).length, .int .i64 0], rfl, rfl, rfl, rfl, rfl, ?_, ?_, ?_⟩
  · (repeat' first | exact trivial | exact rfl | refine And.intro ?_ ?_)
  · (repeat' first | exact trivial | exact rfl | refine And.intro ?_ ?_)
  intro _; refine ⟨fun g => absurd (show ((0 : Int) != 0) = true from g) (by decide), fun _ => ?_⟩
  intro _; refine ⟨⟨by omega, by omega, by rw [Int.toNat_natCast]; omega⟩, ?_⟩
  intro _; refine ⟨rfl, ?_⟩
  intro _
  refine loop2 tt_ok [27] [1] 3 (fun k : { p : Nat × List Int // p.1 ≤ s.length ∧ p.2.length = s.length ∧ ∀ i, i < p.1 → gt p.2 i = (i : Nat) } => [(27, .int .i64 (k.1.1 : Nat))]) (fun k => [(1, .arr [.int .i64] .own (.ints k.1.2))]) (fun k => s.length - k.1.1) ⟨(0, List.replicate s.length 0), by simp only []; omega, by simp, fun i h => by simp only [] at h; omega⟩ ?_
  intro _
  refine ⟨⟨th [] 3, rfl, rfl, rfl, rfl, rfl, rfl, ?_, ?_⟩, ?_⟩
  · (repeat' first | exact trivial | exact rfl | refine And.intro ?_ ?_)
  · (repeat' first | exact trivial | exact rfl | refine And.intro ?_ ?_)
  intro ⟨⟨k, o⟩, hk, hn, hm⟩
  simp only [] at hk hn hm
  intro _; refine ⟨fun g => ?_, fun g => ?_⟩
  · have hkl := of_decide_eq_true (show decide ((k : Int) < (s.length : Int)) = true from g)
    intro _; refine ⟨show 0 ≤ (k : Int) ∧ (k : Int) < (s.length : Int) by omega, ?_⟩
    intro _; refine ⟨show (k : Int).toNat < o.length by omega, ?_⟩
    refine ⟨⟨(k + 1, o.set k (k : Nat)), by simp only []; omega, by simp [hn], fun i hi => ?_⟩, by simp only []; omega, th [] 3, rfl, rfl, rfl, rfl, rfl, rfl, ?_, ?_⟩
    · simp only [] at hi ⊢
      rw [gt_set (by omega)]
      by_cases e : i = k
      · rw [if_pos e, e]
      · rw [if_neg e]; exact hm i (by omega)
    · (repeat' first | exact trivial | exact rfl | refine And.intro ?_ ?_)
      exact (wrap_nat k (by omega)).symm
    · (repeat' first | exact trivial | exact rfl | refine And.intro ?_ ?_)
  have hkl := of_decide_eq_false (show decide ((k : Int) < (s.length : Int)) = false from g)
  have hkl : k = s.length := by omega
  have e : o = mk s.length (fun i => (ph s dir 0 i : Nat)) := mk_of hn fun i hi => hm i (by omega)
  subst e
  intro _
  --LOOPS
  refine loop_step tt_ok ?_
  intro _; refine ⟨fun _ => ?_, fun g => absurd g (by decide)⟩
  intro _
  refine enter tt_ok Try.func27 (nt := 6) (cd := body Try.f27) rfl rfl rfl rfl ?_
  intro _
  intro _
  refine range_ok ?_
  intro _
  refine enter tt_ok Try.func35 (nt := 37) (cd := body Try.f35) rfl rfl rfl rfl ?_
  intro _
  refine loop2 tt_ok [4] [1] 8 (fun p : J5 s dir 0 => [(4, .int .i64 (p.1.1 : Nat))]) (fun p => [(1, .arr [.int .i64] .own (.ints p.1.2))]) (fun p => s.length + 1 - p.1.1) ⟨(0, mk s.length (fun i => (ph s dir 0 i : Nat))), by simp only []; omega, mk_len _ _, fun i h1 h2 => by simp only [] at h2; omega, fun i h1 h2 => gt_mk _ h1, fun _ => .inl rfl⟩ ?_
  intro _
  refine ⟨⟨th [] 8, rfl, rfl, rfl, rfl, rfl, rfl, ?_, ?_⟩, ?_⟩
  · (repeat' first | exact trivial | exact rfl | refine And.intro ?_ ?_)
  · (repeat' first | exact trivial | exact rfl | refine And.intro ?_ ?_)
  intro ⟨⟨fr, o⟩, hfr, hn, hm, hz, hlo⟩
  simp only [] at hfr hn hm hz hlo
  intro _; refine ⟨fun g => ?_, fun g => ?_⟩
  rotate_left
  · have hfl := of_decide_eq_false (show decide ((fr : Int) < ((LL s dir).length : Int)) = false from g)
    have e : o = mk s.length (fun i => (ph s dir (0 + 1) i : Nat)) := mk_of hn fun i hi => by rw [ph_next (by decide)]; exact hm i hi (by omega)
    subst e
    intro _
    intro _
    refine loop_step tt_ok ?_
    intro _; refine ⟨fun _ => ?_, fun g => absurd g (by decide)⟩
    intro _
    refine enter tt_ok Try.func27 (nt := 6) (cd := body Try.f27) rfl rfl rfl rfl ?_
    intro _
    intro _
    refine range_ok ?_
    intro _
    refine enter tt_ok Try.func35 (nt := 37) (cd := body Try.f35) rfl rfl rfl rfl ?_
    intro _
    refine loop2 tt_ok [4] [1] 13 (fun p : J5 s dir 1 => [(4, .int .i64 (p.1.1 : Nat))]) (fun p => [(1, .arr [.int .i64] .own (.ints p.1.2))]) (fun p => s.length + 1 - p.1.1) ⟨(0, mk s.length (fun i => (ph s dir 1 i : Nat))), by simp only []; omega, mk_len _ _, fun i h1 h2 => by simp only [] at h2; omega, fun i h1 h2 => gt_mk _ h1, fun _ => .inl rfl⟩ ?_
    intro _
    refine ⟨⟨th [] 13, rfl, rfl, rfl, rfl, rfl, rfl, ?_, ?_⟩, ?_⟩
    · (repeat' first | exact trivial | exact rfl | refine And.intro ?_ ?_)
    · (repeat' first | exact trivial | exact rfl | refine And.intro ?_ ?_)
    intro ⟨⟨fr, o⟩, hfr, hn, hm, hz, hlo⟩
    simp only [] at hfr hn hm hz hlo
    intro _; refine ⟨fun g => ?_, fun g => ?_⟩
    rotate_left
    · have hfl := of_decide_eq_false (show decide ((fr : Int) < ((LL s dir).length : Int)) = false from g)
      have e : o = mk s.length (fun i => (ph s dir (1 + 1) i : Nat)) := mk_of hn fun i hi => by rw [ph_next (by decide)]; exact hm i hi (by omega)
      subst e
      intro _
      intro _
      refine loop_step tt_ok ?_
      intro _; refine ⟨fun g => absurd g (by decide), fun _ => ?_⟩
      have e : mk s.length (fun i => (ph s dir 2 i : Nat)) = OL s dir := rfl
      have eo : (OL s dir).length = s.length := mk_len _ _
      intro _
      refine ⟨[(0, some 1)], .tup [.grw 0 (OL s dir).length, .int .i64 0], ⟨1, 0, [(0, .arr [.int .i64] .own (.ints (OL s dir)))]⟩, rfl, rfl, rfl, rfl, ?_, ?_, ⟨rfl, rfl⟩⟩
      · (repeat' first | exact trivial | exact rfl | refine And.intro ?_ ?_)
        all_goals (exact eo)
      · (repeat' first | exact trivial | exact rfl | refine And.intro ?_ ?_)
    have hfl := of_decide_eq_true (show decide ((fr : Int) < ((LL s dir).length : Int)) = true from g)
    intro _
    refine loop2 tt_ok [4] [] 13 (fun q : { q : Nat // fr ≤ q ∧ q ≤ s.length ∧ ∀ i, fr ≤ i → i < q → pr s dir 1 i = true } => [(4, .int .i64 (q.1 : Nat))]) (fun _ => []) (fun q => s.length - q.1) ⟨fr, Nat.le_refl _, by omega, fun i h1 h2 => by omega⟩ ?_
    intro _
    refine ⟨⟨th [] 13, rfl, rfl, rfl, rfl, rfl, rfl, ?_, ?_⟩, ?_⟩
    · (repeat' first | exact trivial | exact rfl | refine And.intro ?_ ?_)
    · (repeat' first | exact trivial | exact rfl | refine And.intro ?_ ?_)
    intro ⟨at', h1, h2, hrun⟩
    intro _; refine ⟨fun g => ?_, fun g => ?_⟩
    · have hal := of_decide_eq_true (show decide ((at' : Int) < ((LL s dir).length : Int)) = true from g)
      have eA : (LL s dir).getD (at' : Int).toNat 0 = lev (cc s) dir s.length at' := gt_mk _ (by omega)
      intro _; refine ⟨show 0 ≤ (at' : Int) ∧ (at' : Int) < ((LL s dir).length : Int) by omega, ?_⟩
      intro _; refine ⟨show (at' : Int).toNat < (LL s dir).length by omega, ?_⟩
      intro _
      refine Or.inl ?_
      intro _
      refine enter tt_ok Try.func28 (nt := 7) (cd := body Try.f28) rfl rfl rfl rfl ?_
      intro _
      intro _; refine ⟨by kernel_rfl, ?_⟩
      intro _; refine ⟨fun g => ?_, fun g => ?_⟩
      rotate_left
      · have g := of_decide_eq_false (show decide ((LL s dir).getD (at' : Int).toNat 0 ≥ 2 - ((1 : Nat) : Int)) = false from g)
        rw [eA] at g
        have gn : pr s dir 1 at' = false := decide_eq_false g
        have hstop : at' < s.length → pr s dir 1 at' = false := fun _ => gn
        have hR : Run (pr s dir 1) s.length fr at' := ⟨h1, h2, hrun, hlo (by omega), (Nat.lt_or_ge at' s.length).elim (fun h => .inr (hstop h)) (fun h => .inl (by omega))⟩
        have hat : at' ≤ s.length := h2
        intro _; refine ⟨fun g => ?_, fun g => ?_⟩
        rotate_left
        · have hal2 := of_decide_eq_false (show decide ((at' : Int) > (fr : Int)) = false from g)
          have he : at' = fr := by omega
          subst he
          refine ⟨⟨(at' + 1, o), j5_end hat hstop hn hm hz⟩, by simp only []; omega, th [] 13, rfl, rfl, rfl, rfl, rfl, rfl, ?_, ?_⟩
          · (repeat' first | exact trivial | exact rfl | refine And.intro ?_ ?_)
            exact (wrap_nat at' (by omega)).symm
          · (repeat' first | exact trivial | exact rfl | refine And.intro ?_ ?_)
        have hgt := of_decide_eq_true (show decide ((at' : Int) > (fr : Int)) = true from g)
        intro _
        refine yield_ok tt_ok ?_
        intro _; refine ⟨⟨Int.natCast_nonneg _, show (fr : Int) ≤ (at' : Int) by omega, show (at' : Int) ≤ (((s.length : Int).toNat : Nat) : Int) by omega⟩, ?_⟩
        intro _
        refine enter tt_ok Try.func29 (nt := 28) (cd := body Try.f29) rfl rfl rfl rfl ?_
        intro _
        have hm2 : (((((at' : Int) - (fr : Int)).toNat : Nat) : Int)) = (at' : Int) - (fr : Int) := by omega
        refine loop2 tt_ok [2, 3] [1] 13 (fun q : J6 s dir 1 fr at' => [(2, .int .i64 (q.1.1 : Nat)), (3, .int .i64 ((at' : Int) - fr - 1 - (q.1.1 : Nat)))]) (fun q => [(1, .arr [.int .i64] .own (.ints q.1.2))]) (fun q => at' - fr - q.1.1) ⟨(0, o), by simp only []; omega, hn, fun x hx h => hm x hx (by simp only [] at h; omega), fun x hx h => by simp only [] at h; omega, fun x hx h h2 => hz x hx (by simp only [] at h; omega)⟩ ?_
        intro _
        refine ⟨⟨th [] 13, rfl, rfl, rfl, rfl, rfl, rfl, ?_, ?_⟩, ?_⟩
        · (repeat' first | exact trivial | exact rfl | refine And.intro ?_ ?_)
          all_goals (show (at' : Int) - fr - 1 - ((0 : Nat) : Int) = IntKind.i64.wrap (((((at' : Int) - (fr : Int)).toNat : Nat) : Int) - 1); rw [hm2, wrapS _ ⟨by omega, by omega⟩]; omega)
        · (repeat' first | exact trivial | exact rfl | refine And.intro ?_ ?_)
        intro ⟨⟨i, o'⟩, hi2, hn', hA, hB, hC⟩
        simp only [] at hi2 hn' hA hB hC
        intro _; refine ⟨fun g => ?_, fun g => ?_⟩
        rotate_left
        · have hij := of_decide_eq_false (show decide ((i : Int) < (at' : Int) - fr - 1 - (i : Nat)) = false from g)
          intro _
          intro _
          refine ⟨⟨(at' + 1, o'), j6_end hR (by omega) hi2 (by omega) hstop hn' hA hB hC⟩, by simp only []; omega, th [] 13, rfl, rfl, rfl, rfl, rfl, rfl, ?_, ?_⟩
          · (repeat' first | exact trivial | exact rfl | refine And.intro ?_ ?_)
            exact (wrap_nat at' (by omega)).symm
          · (repeat' first | exact trivial | exact rfl | refine And.intro ?_ ?_)
        have hij := of_decide_eq_true (show decide ((i : Int) < (at' : Int) - fr - 1 - (i : Nat)) = true from g)
        have eJ : 0 + (fr : Int).toNat + ((at' : Int) - fr - 1 - (i : Nat)).toNat = at' - 1 - i := by omega
        have eI : 0 + (fr : Int).toNat + ((i : Nat) : Int).toNat = fr + i := by omega
        intro _; refine ⟨show 0 ≤ (at' : Int) - fr - 1 - (i : Nat) ∧ (at' : Int) - fr - 1 - (i : Nat) < (((((at' : Int) - (fr : Int)).toNat : Nat) : Int)) by omega, ?_⟩
        intro _; refine ⟨show 0 + (fr : Int).toNat + ((at' : Int) - fr - 1 - (i : Nat)).toNat < o'.length by omega, ?_⟩
        intro _; refine ⟨show 0 ≤ (i : Int) ∧ (i : Int) < (((((at' : Int) - (fr : Int)).toNat : Nat) : Int)) by omega, ?_⟩
        intro _; refine ⟨show 0 + (fr : Int).toNat + ((i : Nat) : Int).toNat < o'.length by omega, ?_⟩
        intro _; refine ⟨show 0 ≤ (i : Int) ∧ (i : Int) < (((((at' : Int) - (fr : Int)).toNat : Nat) : Int)) by omega, ?_⟩
        intro _; refine ⟨show 0 + (fr : Int).toNat + ((i : Nat) : Int).toNat < o'.length by omega, ?_⟩
        intro _; refine ⟨show 0 ≤ (at' : Int) - fr - 1 - (i : Nat) ∧ (at' : Int) - fr - 1 - (i : Nat) < (((((at' : Int) - (fr : Int)).toNat : Nat) : Int)) by omega, ?_⟩
        intro _; refine ⟨show 0 + (fr : Int).toNat + ((at' : Int) - fr - 1 - (i : Nat)).toNat < (o'.set (0 + (fr : Int).toNat + ((i : Nat) : Int).toNat) _).length by rw [List.length_set]; omega, ?_⟩
        intro _; refine ⟨by kernel_rfl, ?_⟩
        refine ⟨⟨(i + 1, (o'.set (fr + i) (gt o' (at' - 1 - i))).set (at' - 1 - i) (gt o' (fr + i))), j6_set hR hi2 (by omega) hn' hA hB hC⟩, by simp only []; omega, th [] 13, rfl, rfl, rfl, rfl, rfl, rfl, ?_, ?_⟩
        · (repeat' first | exact trivial | exact rfl | refine And.intro ?_ ?_)
          · exact (wrap_nat i (by omega)).symm
          · show (at' : Int) - fr - 1 - ((i + 1 : Nat) : Int) = IntKind.i64.wrap ((at' : Int) - fr - 1 - (i : Nat) - 1)
            rw [wrapS _ ⟨by omega, by omega⟩]; omega
        · (repeat' first | exact trivial | exact rfl | refine And.intro ?_ ?_)
          all_goals (show (o'.set (fr + i) (gt o' (at' - 1 - i))).set (at' - 1 - i) (gt o' (fr + i)) = (o'.set (0 + (fr : Int).toNat + ((i : Nat) : Int).toNat) (o'.getD (0 + (fr : Int).toNat + ((at' : Int) - fr - 1 - (i : Nat)).toNat) 0)).set (0 + (fr : Int).toNat + ((at' : Int) - fr - 1 - (i : Nat)).toNat) (o'.getD (0 + (fr : Int).toNat + ((i : Nat) : Int).toNat) 0); rw [eI, eJ]; rfl)
      have g := of_decide_eq_true (show decide ((LL s dir).getD (at' : Int).toNat 0 ≥ 2 - ((1 : Nat) : Int)) = true from g)
      rw [eA] at g
      have gn : pr s dir 1 at' = true := decide_eq_true g
      refine ⟨⟨at' + 1, by omega, by omega, fun i h3 h4 => ?_⟩, by simp only []; omega, th [] 13, rfl, rfl, rfl, rfl, rfl, rfl, ?_, ?_⟩
      · by_cases e : i = at'
        · rw [e]; exact gn
        · exact hrun i h3 (by omega)
      · (repeat' first | exact trivial | exact rfl | refine And.intro ?_ ?_)
        exact (wrap_nat at' (by omega)).symm
      · (repeat' first | exact trivial | exact rfl | refine And.intro ?_ ?_)
    have hal := of_decide_eq_false (show decide ((at' : Int) < ((LL s dir).length : Int)) = false from g)
    intro _; refine ⟨by kernel_rfl, ?_⟩
    have hstop : at' < s.length → pr s dir 1 at' = false := fun h => by omega
    have hR : Run (pr s dir 1) s.length fr at' := ⟨h1, h2, hrun, hlo (by omega), (Nat.lt_or_ge at' s.length).elim (fun h => .inr (hstop h)) (fun h => .inl (by omega))⟩
    have hat : at' ≤ s.length := h2
    intro _; refine ⟨fun g => ?_, fun g => ?_⟩
    rotate_left
    · have hal2 := of_decide_eq_false (show decide ((at' : Int) > (fr : Int)) = false from g)
      have he : at' = fr := by omega
      subst he
      refine ⟨⟨(at' + 1, o), j5_end hat hstop hn hm hz⟩, by simp only []; omega, th [] 13, rfl, rfl, rfl, rfl, rfl, rfl, ?_, ?_⟩
      · (repeat' first | exact trivial | exact rfl | refine And.intro ?_ ?_)
        exact (wrap_nat at' (by omega)).symm
      · (repeat' first | exact trivial | exact rfl | refine And.intro ?_ ?_)
    have hgt := of_decide_eq_true (show decide ((at' : Int) > (fr : Int)) = true from g)
    intro _
    refine yield_ok tt_ok ?_
    intro _; refine ⟨⟨Int.natCast_nonneg _, show (fr : Int) ≤ (at' : Int) by omega, show (at' : Int) ≤ (((s.length : Int).toNat : Nat) : Int) by omega⟩, ?_⟩
    intro _
    refine enter tt_ok Try.func29 (nt := 28) (cd := body Try.f29) rfl rfl rfl rfl ?_
    intro _
    have hm2 : (((((at' : Int) - (fr : Int)).toNat : Nat) : Int)) = (at' : Int) - (fr : Int) := by omega
    refine loop2 tt_ok [2, 3] [1] 13 (fun q : J6 s dir 1 fr at' => [(2, .int .i64 (q.1.1 : Nat)), (3, .int .i64 ((at' : Int) - fr - 1 - (q.1.1 : Nat)))]) (fun q => [(1, .arr [.int .i64] .own (.ints q.1.2))]) (fun q => at' - fr - q.1.1) ⟨(0, o), by simp only []; omega, hn, fun x hx h => hm x hx (by simp only [] at h; omega), fun x hx h => by simp only [] at h; omega, fun x hx h h2 => hz x hx (by simp only [] at h; omega)⟩ ?_
    intro _
    refine ⟨⟨th [] 13, rfl, rfl, rfl, rfl, rfl, rfl, ?_, ?_⟩, ?_⟩
    · (repeat' first | exact trivial | exact rfl | refine And.intro ?_ ?_)
      all_goals (show (at' : Int) - fr - 1 - ((0 : Nat) : Int) = IntKind.i64.wrap (((((at' : Int) - (fr : Int)).toNat : Nat) : Int) - 1); rw [hm2, wrapS _ ⟨by omega, by omega⟩]; omega)
    · (repeat' first | exact trivial | exact rfl | refine And.intro ?_ ?_)
    intro ⟨⟨i, o'⟩, hi2, hn', hA, hB, hC⟩
    simp only [] at hi2 hn' hA hB hC
    intro _; refine ⟨fun g => ?_, fun g => ?_⟩
    rotate_left
    · have hij := of_decide_eq_false (show decide ((i : Int) < (at' : Int) - fr - 1 - (i : Nat)) = false from g)
      intro _
      intro _
      refine ⟨⟨(at' + 1, o'), j6_end hR (by omega) hi2 (by omega) hstop hn' hA hB hC⟩, by simp only []; omega, th [] 13, rfl, rfl, rfl, rfl, rfl, rfl, ?_, ?_⟩
      · (repeat' first | exact trivial | exact rfl | refine And.intro ?_ ?_)
        exact (wrap_nat at' (by omega)).symm
      · (repeat' first | exact trivial | exact rfl | refine And.intro ?_ ?_)
    have hij := of_decide_eq_true (show decide ((i : Int) < (at' : Int) - fr - 1 - (i : Nat)) = true from g)
    have eJ : 0 + (fr : Int).toNat + ((at' : Int) - fr - 1 - (i : Nat)).toNat = at' - 1 - i := by omega
    have eI : 0 + (fr : Int).toNat + ((i : Nat) : Int).toNat = fr + i := by omega
    intro _; refine ⟨show 0 ≤ (at' : Int) - fr - 1 - (i : Nat) ∧ (at' : Int) - fr - 1 - (i : Nat) < (((((at' : Int) - (fr : Int)).toNat : Nat) : Int)) by omega, ?_⟩
    intro _; refine ⟨show 0 + (fr : Int).toNat + ((at' : Int) - fr - 1 - (i : Nat)).toNat < o'.length by omega, ?_⟩
    intro _; refine ⟨show 0 ≤ (i : Int) ∧ (i : Int) < (((((at' : Int) - (fr : Int)).toNat : Nat) : Int)) by omega, ?_⟩
    intro _; refine ⟨show 0 + (fr : Int).toNat + ((i : Nat) : Int).toNat < o'.length by omega, ?_⟩
    intro _; refine ⟨show 0 ≤ (i : Int) ∧ (i : Int) < (((((at' : Int) - (fr : Int)).toNat : Nat) : Int)) by omega, ?_⟩
    intro _; refine ⟨show 0 + (fr : Int).toNat + ((i : Nat) : Int).toNat < o'.length by omega, ?_⟩
    intro _; refine ⟨show 0 ≤ (at' : Int) - fr - 1 - (i : Nat) ∧ (at' : Int) - fr - 1 - (i : Nat) < (((((at' : Int) - (fr : Int)).toNat : Nat) : Int)) by omega, ?_⟩
    intro _; refine ⟨show 0 + (fr : Int).toNat + ((at' : Int) - fr - 1 - (i : Nat)).toNat < (o'.set (0 + (fr : Int).toNat + ((i : Nat) : Int).toNat) _).length by rw [List.length_set]; omega, ?_⟩
    intro _; refine ⟨by kernel_rfl, ?_⟩
    refine ⟨⟨(i + 1, (o'.set (fr + i) (gt o' (at' - 1 - i))).set (at' - 1 - i) (gt o' (fr + i))), j6_set hR hi2 (by omega) hn' hA hB hC⟩, by simp only []; omega, th [] 13, rfl, rfl, rfl, rfl, rfl, rfl, ?_, ?_⟩
    · (repeat' first | exact trivial | exact rfl | refine And.intro ?_ ?_)
      · exact (wrap_nat i (by omega)).symm
      · show (at' : Int) - fr - 1 - ((i + 1 : Nat) : Int) = IntKind.i64.wrap ((at' : Int) - fr - 1 - (i : Nat) - 1)
        rw [wrapS _ ⟨by omega, by omega⟩]; omega
    · (repeat' first | exact trivial | exact rfl | refine And.intro ?_ ?_)
      all_goals (show (o'.set (fr + i) (gt o' (at' - 1 - i))).set (at' - 1 - i) (gt o' (fr + i)) = (o'.set (0 + (fr : Int).toNat + ((i : Nat) : Int).toNat) (o'.getD (0 + (fr : Int).toNat + ((at' : Int) - fr - 1 - (i : Nat)).toNat) 0)).set (0 + (fr : Int).toNat + ((at' : Int) - fr - 1 - (i : Nat)).toNat) (o'.getD (0 + (fr : Int).toNat + ((i : Nat) : Int).toNat) 0); rw [eI, eJ]; rfl)
  have hfl := of_decide_eq_true (show decide ((fr : Int) < ((LL s dir).length : Int)) = true from g)
  intro _
  refine loop2 tt_ok [4] [] 8 (fun q : { q : Nat // fr ≤ q ∧ q ≤ s.length ∧ ∀ i, fr ≤ i → i < q → pr s dir 0 i = true } => [(4, .int .i64 (q.1 : Nat))]) (fun _ => []) (fun q => s.length - q.1) ⟨fr, Nat.le_refl _, by omega, fun i h1 h2 => by omega⟩ ?_
  intro _
  refine ⟨⟨th [] 8, rfl, rfl, rfl, rfl, rfl, rfl, ?_, ?_⟩, ?_⟩
  · (repeat' first | exact trivial | exact rfl | refine And.intro ?_ ?_)
  · (repeat' first | exact trivial | exact rfl | refine And.intro ?_ ?_)
  intro ⟨at', h1, h2, hrun⟩
  intro _; refine ⟨fun g => ?_, fun g => ?_⟩
  · have hal := of_decide_eq_true (show decide ((at' : Int) < ((LL s dir).length : Int)) = true from g)
    have eA : (LL s dir).getD (at' : Int).toNat 0 = lev (cc s) dir s.length at' := gt_mk _ (by omega)
    intro _; refine ⟨show 0 ≤ (at' : Int) ∧ (at' : Int) < ((LL s dir).length : Int) by omega, ?_⟩
    intro _; refine ⟨show (at' : Int).toNat < (LL s dir).length by omega, ?_⟩
    intro _
    refine Or.inl ?_
    intro _
    refine enter tt_ok Try.func28 (nt := 7) (cd := body Try.f28) rfl rfl rfl rfl ?_
    intro _
    intro _; refine ⟨by kernel_rfl, ?_⟩
    intro _; refine ⟨fun g => ?_, fun g => ?_⟩
    rotate_left
    · have g := of_decide_eq_false (show decide ((LL s dir).getD (at' : Int).toNat 0 ≥ 2 - ((0 : Nat) : Int)) = false from g)
      rw [eA] at g
      have gn : pr s dir 0 at' = false := decide_eq_false g
      have hstop : at' < s.length → pr s dir 0 at' = false := fun _ => gn
      have hR : Run (pr s dir 0) s.length fr at' := ⟨h1, h2, hrun, hlo (by omega), (Nat.lt_or_ge at' s.length).elim (fun h => .inr (hstop h)) (fun h => .inl (by omega))⟩
      have hat : at' ≤ s.length := h2
      intro _; refine ⟨fun g => ?_, fun g => ?_⟩
      rotate_left
      · have hal2 := of_decide_eq_false (show decide ((at' : Int) > (fr : Int)) = false from g)
        have he : at' = fr := by omega
        subst he
        refine ⟨⟨(at' + 1, o), j5_end hat hstop hn hm hz⟩, by simp only []; omega, th [] 8, rfl, rfl, rfl, rfl, rfl, rfl, ?_, ?_⟩
        · (repeat' first | exact trivial | exact rfl | refine And.intro ?_ ?_)
          exact (wrap_nat at' (by omega)).symm
        · (repeat' first | exact trivial | exact rfl | refine And.intro ?_ ?_)
      have hgt := of_decide_eq_true (show decide ((at' : Int) > (fr : Int)) = true from g)
      intro _
      refine yield_ok tt_ok ?_
      intro _; refine ⟨⟨Int.natCast_nonneg _, show (fr : Int) ≤ (at' : Int) by omega, show (at' : Int) ≤ (((s.length : Int).toNat : Nat) : Int) by omega⟩, ?_⟩
      intro _
      refine enter tt_ok Try.func29 (nt := 28) (cd := body Try.f29) rfl rfl rfl rfl ?_
      intro _
      have hm2 : (((((at' : Int) - (fr : Int)).toNat : Nat) : Int)) = (at' : Int) - (fr : Int) := by omega
      refine loop2 tt_ok [2, 3] [1] 8 (fun q : J6 s dir 0 fr at' => [(2, .int .i64 (q.1.1 : Nat)), (3, .int .i64 ((at' : Int) - fr - 1 - (q.1.1 : Nat)))]) (fun q => [(1, .arr [.int .i64] .own (.ints q.1.2))]) (fun q => at' - fr - q.1.1) ⟨(0, o), by simp only []; omega, hn, fun x hx h => hm x hx (by simp only [] at h; omega), fun x hx h => by simp only [] at h; omega, fun x hx h h2 => hz x hx (by simp only [] at h; omega)⟩ ?_
      intro _
      refine ⟨⟨th [] 8, rfl, rfl, rfl, rfl, rfl, rfl, ?_, ?_⟩, ?_⟩
      · (repeat' first | exact trivial | exact rfl | refine And.intro ?_ ?_)
        all_goals (show (at' : Int) - fr - 1 - ((0 : Nat) : Int) = IntKind.i64.wrap (((((at' : Int) - (fr : Int)).toNat : Nat) : Int) - 1); rw [hm2, wrapS _ ⟨by omega, by omega⟩]; omega)
      · (repeat' first | exact trivial | exact rfl | refine And.intro ?_ ?_)
      intro ⟨⟨i, o'⟩, hi2, hn', hA, hB, hC⟩
      simp only [] at hi2 hn' hA hB hC
      intro _; refine ⟨fun g => ?_, fun g => ?_⟩
      rotate_left
      · have hij := of_decide_eq_false (show decide ((i : Int) < (at' : Int) - fr - 1 - (i : Nat)) = false from g)
        intro _
        intro _
        refine ⟨⟨(at' + 1, o'), j6_end hR (by omega) hi2 (by omega) hstop hn' hA hB hC⟩, by simp only []; omega, th [] 8, rfl, rfl, rfl, rfl, rfl, rfl, ?_, ?_⟩
        · (repeat' first | exact trivial | exact rfl | refine And.intro ?_ ?_)
          exact (wrap_nat at' (by omega)).symm
        · (repeat' first | exact trivial | exact rfl | refine And.intro ?_ ?_)
      have hij := of_decide_eq_true (show decide ((i : Int) < (at' : Int) - fr - 1 - (i : Nat)) = true from g)
      have eJ : 0 + (fr : Int).toNat + ((at' : Int) - fr - 1 - (i : Nat)).toNat = at' - 1 - i := by omega
      have eI : 0 + (fr : Int).toNat + ((i : Nat) : Int).toNat = fr + i := by omega
      intro _; refine ⟨show 0 ≤ (at' : Int) - fr - 1 - (i : Nat) ∧ (at' : Int) - fr - 1 - (i : Nat) < (((((at' : Int) - (fr : Int)).toNat : Nat) : Int)) by omega, ?_⟩
      intro _; refine ⟨show 0 + (fr : Int).toNat + ((at' : Int) - fr - 1 - (i : Nat)).toNat < o'.length by omega, ?_⟩
      intro _; refine ⟨show 0 ≤ (i : Int) ∧ (i : Int) < (((((at' : Int) - (fr : Int)).toNat : Nat) : Int)) by omega, ?_⟩
      intro _; refine ⟨show 0 + (fr : Int).toNat + ((i : Nat) : Int).toNat < o'.length by omega, ?_⟩
      intro _; refine ⟨show 0 ≤ (i : Int) ∧ (i : Int) < (((((at' : Int) - (fr : Int)).toNat : Nat) : Int)) by omega, ?_⟩
      intro _; refine ⟨show 0 + (fr : Int).toNat + ((i : Nat) : Int).toNat < o'.length by omega, ?_⟩
      intro _; refine ⟨show 0 ≤ (at' : Int) - fr - 1 - (i : Nat) ∧ (at' : Int) - fr - 1 - (i : Nat) < (((((at' : Int) - (fr : Int)).toNat : Nat) : Int)) by omega, ?_⟩
      intro _; refine ⟨show 0 + (fr : Int).toNat + ((at' : Int) - fr - 1 - (i : Nat)).toNat < (o'.set (0 + (fr : Int).toNat + ((i : Nat) : Int).toNat) _).length by rw [List.length_set]; omega, ?_⟩
      intro _; refine ⟨by kernel_rfl, ?_⟩
      refine ⟨⟨(i + 1, (o'.set (fr + i) (gt o' (at' - 1 - i))).set (at' - 1 - i) (gt o' (fr + i))), j6_set hR hi2 (by omega) hn' hA hB hC⟩, by simp only []; omega, th [] 8, rfl, rfl, rfl, rfl, rfl, rfl, ?_, ?_⟩
      · (repeat' first | exact trivial | exact rfl | refine And.intro ?_ ?_)
        · exact (wrap_nat i (by omega)).symm
        · show (at' : Int) - fr - 1 - ((i + 1 : Nat) : Int) = IntKind.i64.wrap ((at' : Int) - fr - 1 - (i : Nat) - 1)
          rw [wrapS _ ⟨by omega, by omega⟩]; omega
      · (repeat' first | exact trivial | exact rfl | refine And.intro ?_ ?_)
        all_goals (show (o'.set (fr + i) (gt o' (at' - 1 - i))).set (at' - 1 - i) (gt o' (fr + i)) = (o'.set (0 + (fr : Int).toNat + ((i : Nat) : Int).toNat) (o'.getD (0 + (fr : Int).toNat + ((at' : Int) - fr - 1 - (i : Nat)).toNat) 0)).set (0 + (fr : Int).toNat + ((at' : Int) - fr - 1 - (i : Nat)).toNat) (o'.getD (0 + (fr : Int).toNat + ((i : Nat) : Int).toNat) 0); rw [eI, eJ]; rfl)
    have g := of_decide_eq_true (show decide ((LL s dir).getD (at' : Int).toNat 0 ≥ 2 - ((0 : Nat) : Int)) = true from g)
    rw [eA] at g
    have gn : pr s dir 0 at' = true := decide_eq_true g
    refine ⟨⟨at' + 1, by omega, by omega, fun i h3 h4 => ?_⟩, by simp only []; omega, th [] 8, rfl, rfl, rfl, rfl, rfl, rfl, ?_, ?_⟩
    · by_cases e : i = at'
      · rw [e]; exact gn
      · exact hrun i h3 (by omega)
    · (repeat' first | exact trivial | exact rfl | refine And.intro ?_ ?_)
      exact (wrap_nat at' (by omega)).symm
    · (repeat' first | exact trivial | exact rfl | refine And.intro ?_ ?_)
  have hal := of_decide_eq_false (show decide ((at' : Int) < ((LL s dir).length : Int)) = false from g)
  intro _; refine ⟨by kernel_rfl, ?_⟩
  have hstop : at' < s.length → pr s dir 0 at' = false := fun h => by omega
  have hR : Run (pr s dir 0) s.length fr at' := ⟨h1, h2, hrun, hlo (by omega), (Nat.lt_or_ge at' s.length).elim (fun h => .inr (hstop h)) (fun h => .inl (by omega))⟩
  have hat : at' ≤ s.length := h2
  intro _; refine ⟨fun g => ?_, fun g => ?_⟩
  rotate_left
  · have hal2 := of_decide_eq_false (show decide ((at' : Int) > (fr : Int)) = false from g)
    have he : at' = fr := by omega
    subst he
    refine ⟨⟨(at' + 1, o), j5_end hat hstop hn hm hz⟩, by simp only []; omega, th [] 8, rfl, rfl, rfl, rfl, rfl, rfl, ?_, ?_⟩
    · (repeat' first | exact trivial | exact rfl | refine And.intro ?_ ?_)
      exact (wrap_nat at' (by omega)).symm
    · (repeat' first | exact trivial | exact rfl | refine And.intro ?_ ?_)
  have hgt := of_decide_eq_true (show decide ((at' : Int) > (fr : Int)) = true from g)
  intro _
  refine yield_ok tt_ok ?_
  intro _; refine ⟨⟨Int.natCast_nonneg _, show (fr : Int) ≤ (at' : Int) by omega, show (at' : Int) ≤ (((s.length : Int).toNat : Nat) : Int) by omega⟩, ?_⟩
  intro _
  refine enter tt_ok Try.func29 (nt := 28) (cd := body Try.f29) rfl rfl rfl rfl ?_
  intro _
  have hm2 : (((((at' : Int) - (fr : Int)).toNat : Nat) : Int)) = (at' : Int) - (fr : Int) := by omega
  refine loop2 tt_ok [2, 3] [1] 8 (fun q : J6 s dir 0 fr at' => [(2, .int .i64 (q.1.1 : Nat)), (3, .int .i64 ((at' : Int) - fr - 1 - (q.1.1 : Nat)))]) (fun q => [(1, .arr [.int .i64] .own (.ints q.1.2))]) (fun q => at' - fr - q.1.1) ⟨(0, o), by simp only []; omega, hn, fun x hx h => hm x hx (by simp only [] at h; omega), fun x hx h => by simp only [] at h; omega, fun x hx h h2 => hz x hx (by simp only [] at h; omega)⟩ ?_
  intro _
  refine ⟨⟨th [] 8, rfl, rfl, rfl, rfl, rfl, rfl, ?_, ?_⟩, ?_⟩
  · (repeat' first | exact trivial | exact rfl | refine And.intro ?_ ?_)
    all_goals (show (at' : Int) - fr - 1 - ((0 : Nat) : Int) = IntKind.i64.wrap (((((at' : Int) - (fr : Int)).toNat : Nat) : Int) - 1); rw [hm2, wrapS _ ⟨by omega, by omega⟩]; omega)
  · (repeat' first | exact trivial | exact rfl | refine And.intro ?_ ?_)
  intro ⟨⟨i, o'⟩, hi2, hn', hA, hB, hC⟩
  simp only [] at hi2 hn' hA hB hC
  intro _; refine ⟨fun g => ?_, fun g => ?_⟩
  rotate_left
  · have hij := of_decide_eq_false (show decide ((i : Int) < (at' : Int) - fr - 1 - (i : Nat)) = false from g)
    intro _
    intro _
    refine ⟨⟨(at' + 1, o'), j6_end hR (by omega) hi2 (by omega) hstop hn' hA hB hC⟩, by simp only []; omega, th [] 8, rfl, rfl, rfl, rfl, rfl, rfl, ?_, ?_⟩
    · (repeat' first | exact trivial | exact rfl | refine And.intro ?_ ?_)
      exact (wrap_nat at' (by omega)).symm
    · (repeat' first | exact trivial | exact rfl | refine And.intro ?_ ?_)
  have hij := of_decide_eq_true (show decide ((i : Int) < (at' : Int) - fr - 1 - (i : Nat)) = true from g)
  have eJ : 0 + (fr : Int).toNat + ((at' : Int) - fr - 1 - (i : Nat)).toNat = at' - 1 - i := by omega
  have eI : 0 + (fr : Int).toNat + ((i : Nat) : Int).toNat = fr + i := by omega
  intro _; refine ⟨show 0 ≤ (at' : Int) - fr - 1 - (i : Nat) ∧ (at' : Int) - fr - 1 - (i : Nat) < (((((at' : Int) - (fr : Int)).toNat : Nat) : Int)) by omega, ?_⟩
  intro _; refine ⟨show 0 + (fr : Int).toNat + ((at' : Int) - fr - 1 - (i : Nat)).toNat < o'.length by omega, ?_⟩
  intro _; refine ⟨show 0 ≤ (i : Int) ∧ (i : Int) < (((((at' : Int) - (fr : Int)).toNat : Nat) : Int)) by omega, ?_⟩
  intro _; refine ⟨show 0 + (fr : Int).toNat + ((i : Nat) : Int).toNat < o'.length by omega, ?_⟩
  intro _; refine ⟨show 0 ≤ (i : Int) ∧ (i : Int) < (((((at' : Int) - (fr : Int)).toNat : Nat) : Int)) by omega, ?_⟩
  intro _; refine ⟨show 0 + (fr : Int).toNat + ((i : Nat) : Int).toNat < o'.length by omega, ?_⟩
  intro _; refine ⟨show 0 ≤ (at' : Int) - fr - 1 - (i : Nat) ∧ (at' : Int) - fr - 1 - (i : Nat) < (((((at' : Int) - (fr : Int)).toNat : Nat) : Int)) by omega, ?_⟩
  intro _; refine ⟨show 0 + (fr : Int).toNat + ((at' : Int) - fr - 1 - (i : Nat)).toNat < (o'.set (0 + (fr : Int).toNat + ((i : Nat) : Int).toNat) _).length by rw [List.length_set]; omega, ?_⟩
  intro _; refine ⟨by kernel_rfl, ?_⟩
  refine ⟨⟨(i + 1, (o'.set (fr + i) (gt o' (at' - 1 - i))).set (at' - 1 - i) (gt o' (fr + i))), j6_set hR hi2 (by omega) hn' hA hB hC⟩, by simp only []; omega, th [] 8, rfl, rfl, rfl, rfl, rfl, rfl, ?_, ?_⟩
  · (repeat' first | exact trivial | exact rfl | refine And.intro ?_ ?_)
    · exact (wrap_nat i (by omega)).symm
    · show (at' : Int) - fr - 1 - ((i + 1 : Nat) : Int) = IntKind.i64.wrap ((at' : Int) - fr - 1 - (i : Nat) - 1)
      rw [wrapS _ ⟨by omega, by omega⟩]; omega
  · (repeat' first | exact trivial | exact rfl | refine And.intro ?_ ?_)
    all_goals (show (o'.set (fr + i) (gt o' (at' - 1 - i))).set (at' - 1 - i) (gt o' (fr + i)) = (o'.set (0 + (fr : Int).toNat + ((i : Nat) : Int).toNat) (o'.getD (0 + (fr : Int).toNat + ((at' : Int) - fr - 1 - (i : Nat)).toNat) 0)).set (0 + (fr : Int).toNat + ((at' : Int) - fr - 1 - (i : Nat)).toNat) (o'.getD (0 + (fr : Int).toNat + ((i : Nat) : Int).toNat) 0); rw [eI, eJ]; rfl)
theorem Order_err (s : List UInt8) (dir : Int) (hl : s.length ≤ 9223372036854775807) (hE : ¬ (VA s ∧ (dir = 0 ∨ dir = 1))) : SemF Try.prog 14 [.str s, .int .i64 dir] ⟨0, 0, []⟩ (fun v _ => v = .tup [.nils, .int .i64 1] ∧ nameless v = true) := by
  refine enter tt_ok Try.func14 (nt := 51) (cd := body Try.f14) rfl rfl rfl rfl ?_
  intro _
  refine call_pure [] (Levels_err s dir hl hE) rfl rfl rfl ?_ ?_ ?_
  · (repeat' first | exact trivial | exact rfl | refine And.intro ?_ ?_)
  · (repeat' first | exact trivial | exact rfl | refine And.intro ?_ ?_)
  intro v hv _
  subst hv
  intro _; refine ⟨fun _ => ?_, fun g => absurd (show ((1 : Int) != 0) = false from g) (by decide)⟩
  intro _
  exact ⟨rfl, rfl⟩
def bt (s : List UInt8) (i : Nat) : UInt8 := s.getD i 0
/-- what is seen -/
def VS (s : List UInt8) (dir : Int) : List UInt8 := (List.range s.length).map fun k => bt s (od (cc s) dir s.length k)
theorem VS_len (s : List UInt8) (dir : Int) : (VS s dir).length = s.length := by simp [VS]
theorem VS_get {s : List UInt8} {dir : Int} {k : Nat} (h : k < s.length) : bt (VS s dir) k = bt s (od (cc s) dir s.length k) := by
  simp [bt, VS, List.getD_eq_getElem?_getD, List.getElem?_range h]
theorem str_ext {a b : List UInt8} (hl : a.length = b.length) (h : ∀ i, i < a.length → bt a i = bt b i) : a = b := by
  apply List.ext_getElem?
  intro i
  by_cases hi : i < a.length
  · have h1 := h i hi
    unfold bt at h1
    rw [List.getD_eq_getElem?_getD, List.getD_eq_getElem?_getD] at h1
    rw [List.getElem?_eq_getElem hi, List.getElem?_eq_getElem (by omega)] at h1 ⊢
    simp only [Option.getD_some] at h1
    rw [h1]
  · rw [List.getElem?_eq_none (by omega), List.getElem?_eq_none (by omega)]
theorem str_mk {s : List UInt8} {n : Nat} {f : Nat → Nat} : (mk n fun k => by' s (f k)).map (fun n => UInt8.ofNat n.toNat) = (List.range n).map fun k => bt s (f k) := by
  simp [mk, by', bt, Function.comp_def]
set_option maxHeartbeats 4000000 in
theorem Visual_ok (s : List UInt8) (dir : Int) (hV : VA s) (hd : dir = 0 ∨ dir = 1) : SemF Try.prog 16 [.str s, .int .i64 dir] ⟨0, 0, []⟩ (fun v _ => v = .tup [.str (VS s dir), .int .i64 0] ∧ nameless v = true) := by
  have hl := hV.1
  have hOL : (OL s dir).length = s.length := mk_len _ _
  refine enter tt_ok Try.func16 (nt := 39) (cd := body Try.f16) rfl rfl rfl rfl ?_
  intro _
  refine call_new [] (Order_ok s dir hV hd) rfl rfl rfl rfl ?_ ?_ ?_
  · (repeat' first | exact trivial | exact rfl | refine And.intro ?_ ?_)
  · (repeat' first | exact trivial | exact rfl | refine And.intro ?_ ?_)
  intro v h' hv
  obtain ⟨rfl, rfl⟩ := hv
  refine ⟨[(0, some 0)], 1, [(0, .arr [.int .i64] .own (.ints (OL s dir)))], .tup [.grw 0 (OL s dir).length, .int .i64 0], rfl, rfl, rfl, rfl, rfl, ?_, ?_, ?_⟩
  · (repeat' first | exact trivial | exact rfl | refine And.intro ?_ ?_)
  · (repeat' first | exact trivial | exact rfl | refine And.intro ?_ ?_)
  intro _; refine ⟨fun g => absurd (show ((0 : Int) != 0) = true from g) (by decide), fun _ => ?_⟩
  intro _; refine ⟨⟨by omega, by omega, by rw [Int.toNat_natCast]; omega⟩, ?_⟩
  intro _; refine ⟨rfl, ?_⟩
  intro _
  refine loop2 tt_ok [25] [1] 2 (fun k : { p : Nat × List Int // p.1 ≤ s.length ∧ p.2.length = s.length ∧ ∀ i, i < p.1 → gt p.2 i = by' s (od (cc s) dir s.length i) } => [(25, .int .i64 (k.1.1 : Nat))]) (fun k => [(1, .arr [.int .u8] .own (.ints k.1.2))]) (fun k => s.length - k.1.1) ⟨(0, List.replicate s.length 0), by simp only []; omega, by simp, fun i h => by simp only [] at h; omega⟩ ?_
  intro _
  refine ⟨⟨th [] 2, rfl, rfl, rfl, rfl, rfl, rfl, ?_, ?_⟩, ?_⟩
  · (repeat' first | exact trivial | exact rfl | refine And.intro ?_ ?_)
  · (repeat' first | exact trivial | exact rfl | refine And.intro ?_ ?_)
  intro ⟨⟨k, o⟩, hk, hn, hm⟩
  simp only [] at hk hn hm
  intro _; refine ⟨fun g => ?_, fun g => ?_⟩
  · have hkl := of_decide_eq_true (show decide ((k : Int) < ((OL s dir).length : Int)) = true from g)
    have hks : k < s.length := by omega
    have eO : (OL s dir).getD (k : Int).toNat 0 = (od (cc s) dir s.length k : Nat) := gt_mk _ hks
    have hol := od_lt (c := cc s) (dir := dir) hks
    intro _; refine ⟨show 0 ≤ (k : Int) ∧ (k : Int) < ((OL s dir).length : Int) by omega, ?_⟩
    intro _; refine ⟨show (k : Int).toNat < (OL s dir).length by omega, ?_⟩
    intro _; refine ⟨show 0 ≤ (OL s dir).getD (k : Int).toNat 0 ∧ (OL s dir).getD (k : Int).toNat 0 < (s.length : Int) by rw [eO]; omega, ?_⟩
    intro _; refine ⟨show 0 ≤ (k : Int) ∧ (k : Int) < (s.length : Int) by omega, ?_⟩
    intro _; refine ⟨show (k : Int).toNat < o.length by omega, ?_⟩
    refine ⟨⟨(k + 1, o.set k (by' s (od (cc s) dir s.length k))), by simp only []; omega, by simp [hn], fun i hi => ?_⟩, by simp only []; omega, th [] 2, rfl, rfl, rfl, rfl, rfl, rfl, ?_, ?_⟩
    · simp only [] at hi ⊢
      rw [gt_set (by omega)]
      by_cases e : i = k
      · rw [if_pos e, e]
      · rw [if_neg e]; exact hm i (by omega)
    · (repeat' first | exact trivial | exact rfl | refine And.intro ?_ ?_)
      exact (wrap_nat k (by omega)).symm
    · (repeat' first | exact trivial | exact rfl | refine And.intro ?_ ?_)
      all_goals (show o.set k (by' s (od (cc s) dir s.length k)) = o.set k (((s.getD ((OL s dir).getD (k : Int).toNat 0).toNat 0).toNat : Nat) : Int); rw [eO]; rfl)
  have hkl := of_decide_eq_false (show decide ((k : Int) < ((OL s dir).length : Int)) = false from g)
  have hkl : k = s.length := by omega
  have e : o = mk s.length (fun i => by' s (od (cc s) dir s.length i)) := mk_of hn fun i hi => hm i (by omega)
  subst e
  intro _; refine ⟨show (s.length : Int).toNat = (mk s.length (fun i => by' s (od (cc s) dir s.length i))).length by rw [hn]; omega, ?_⟩
  intro _
  refine ⟨?_, rfl⟩
  show V.tup [.str ((mk s.length (fun i => by' s (od (cc s) dir s.length i))).map fun n => UInt8.ofNat n.toNat), .int .i64 0] = _
  rw [str_mk]
  rfl
theorem Visual_err (s : List UInt8) (dir : Int) (hl : s.length ≤ 9223372036854775807) (hE : ¬ (VA s ∧ (dir = 0 ∨ dir = 1))) : SemF Try.prog 16 [.str s, .int .i64 dir] ⟨0, 0, []⟩ (fun v _ => v = .tup [.str [], .int .i64 1] ∧ nameless v = true) := by
  refine enter tt_ok Try.func16 (nt := 39) (cd := body Try.f16) rfl rfl rfl rfl ?_
  intro _
  refine call_pure [] (Order_err s dir hl hE) rfl rfl rfl ?_ ?_ ?_
  · (repeat' first | exact trivial | exact rfl | refine And.intro ?_ ?_)
  · (repeat' first | exact trivial | exact rfl | refine And.intro ?_ ?_)
  intro v hv _
  subst hv
  intro _; refine ⟨fun _ => ?_, fun g => absurd (show ((1 : Int) != 0) = false from g) (by decide)⟩
  intro _
  exact ⟨rfl, rfl⟩
theorem nt_cl {s : List UInt8} {k : Nat} (h : cc s k ≠ 0) : Nt (cc s) k = decide (cc s k > 3) := by
  have h0 := cl_nn (by' s k)
  have h0 : 0 ≤ cc s k := h0
  cases e : Nt (cc s) k with
  | false => have := nt_not.1 e; exact (decide_eq_false (by omega)).symm
  | true => have := nt_iff.1 e; exact (decide_eq_true (by omega)).symm
theorem neutral_ok (s : List UInt8) (k : Nat) (h : cc s k ≠ 0) : SemF Try.prog 34 [.int .u8 (by' s k)] ⟨0, 0, []⟩ (fun v _ => v = .test (Nt (cc s) k) ∧ nameless v = true) := by
  refine enter tt_ok Try.func34 (nt := 6) (cd := body Try.f34) rfl rfl rfl rfl ?_
  intro _
  refine call_pure [] (rclass_ok (by' s k)) rfl rfl rfl ?_ ?_ ?_
  · (repeat' first | exact trivial | exact rfl | refine And.intro ?_ ?_)
  · (repeat' first | exact trivial | exact rfl | refine And.intro ?_ ?_)
  intro v hv _
  subst hv
  intro _
  exact ⟨by rw [nt_cl h], rfl⟩
theorem rwd_lts {c : Nat → Int} {dir : Int} {k : Nat} (h : Nt c k = false) : rwd c dir k = lts c dir (k + 1) := by
  have h := nt_not.1 h
  unfold rwd
  simp only [lts]
  by_cases h1 : c k = 1
  · rw [if_pos h1, if_pos h1]
  · rw [if_neg h1, if_neg h1]
    by_cases h2 : c k = 2
    · rw [if_pos h2, if_pos h2]
    · rw [if_neg h2, if_neg h2, if_pos (by omega)]
/-- what the reference has, when the runs that begin before i are filled -/
def e2 (s : List UInt8) (dir : Int) (i x : Nat) : Int := if Nt (cc s) x = true ∧ dn (Nt (cc s)) x < i then dd (cc s) dir s.length x else lts (cc s) dir (x + 1)
theorem e2_out {s : List UInt8} {dir : Int} {i x : Nat} (h : Nt (cc s) x = false) : e2 s dir i x = rwd (cc s) dir x := by
  unfold e2
  rw [if_neg (fun q => by rw [h] at q; exact absurd q.1 (by decide)), rwd_lts h]
theorem e2_end {s : List UInt8} {dir : Int} {x : Nat} (h : x < s.length) : e2 s dir s.length x = dd (cc s) dir s.length x := by
  cases e : Nt (cc s) x with
  | false => rw [e2_out e, dd_out e]
  | true => unfold e2; rw [if_pos ⟨e, by have := (dn_spec (Nt (cc s)) x).1; omega⟩]
theorem e2_congr {s : List UInt8} {dir : Int} {i x : Nat} (h : ¬ (Nt (cc s) x = true ∧ dn (Nt (cc s)) x = i)) : e2 s dir (i + 1) x = e2 s dir i x := by
  unfold e2
  by_cases e : Nt (cc s) x = true ∧ dn (Nt (cc s)) x < i
  · rw [if_pos e, if_pos ⟨e.1, by omega⟩]
  · rw [if_neg e, if_neg (fun q => by
      by_cases e3 : dn (Nt (cc s)) x = i
      · exact h ⟨q.1, e3⟩
      · exact e ⟨q.1, by omega⟩)]
theorem e2_skip {s : List UInt8} {dir : Int} {i x : Nat} (h : Nt (cc s) i = false ∨ (0 < i ∧ Nt (cc s) (i - 1) = true)) : e2 s dir (i + 1) x = e2 s dir i x := by
  refine e2_congr fun ⟨q1, q2⟩ => ?_
  obtain ⟨d1, d2, d3⟩ := dn_spec (Nt (cc s)) x
  rw [q2] at d1 d2 d3
  rcases h with h | ⟨h1, h2⟩
  · by_cases e : i = x
    · rw [e, q1] at h; cases h
    · rw [d2 i (Nat.le_refl _) (by omega)] at h; cases h
  · rcases d3 with d3 | d3
    · omega
    · rw [h2] at d3; cases d3
theorem e2_run {s : List UInt8} {dir : Int} {i k x : Nat} (r : Run (Nt (cc s)) s.length i k) (hx : x < s.length) : e2 s dir (i + 1) x = if i ≤ x ∧ x < k then dval (cc s) dir s.length i k else e2 s dir i x := by
  by_cases e : i ≤ x ∧ x < k
  · rw [if_pos e, ← dd_run (dir := dir) r e.1 e.2]
    unfold e2
    rw [if_pos ⟨r.all x e.1 e.2, by rw [dn_run r x e.1 (by omega)]; omega⟩]
  · rw [if_neg e]
    refine e2_congr fun ⟨q1, q2⟩ => ?_
    obtain ⟨d1, d2, d3⟩ := dn_spec (Nt (cc s)) x
    rw [q2] at d1 d2
    have hk : k ≤ x := by omega
    rcases r.hi with h | h
    · omega
    · by_cases e2 : k = x
      · rw [e2, q1] at h; cases h
      · rw [d2 k r.ab (by omega)] at h; cases h
abbrev R1 (s : List UInt8) (dir : Int) := { p : Nat × Int × List Int // p.1 ≤ s.length ∧ p.2.1 = lts (cc s) dir p.1 ∧ p.2.2.length = s.length ∧ ∀ i, i < p.1 → gt p.2.2 i = lts (cc s) dir (i + 1) }
abbrev R2 (s : List UInt8) (dir : Int) := { p : Nat × List Int // p.1 ≤ s.length ∧ p.2.length = s.length ∧ ∀ x, x < s.length → gt p.2 x = e2 s dir p.1 x }
abbrev R3 (s : List UInt8) (dir : Int) (i k : Nat) := { p : Nat × List Int // i ≤ p.1 ∧ p.1 ≤ k ∧ p.2.length = s.length ∧ ∀ x, x < s.length → gt p.2 x = if i ≤ x ∧ x < p.1 then dval (cc s) dir s.length i k else e2 s dir i x }
theorem r1_set {s : List UInt8} {dir : Int} {l : List Int} {k : Nat} {v : Int} (hk : k < s.length) (hn : l.length = s.length) (hm : ∀ i, i < k → gt l i = lts (cc s) dir (i + 1)) (h : v = lts (cc s) dir (k + 1)) : k + 1 ≤ s.length ∧ v = lts (cc s) dir (k + 1) ∧ (l.set k v).length = s.length ∧ ∀ i, i < k + 1 → gt (l.set k v) i = lts (cc s) dir (i + 1) := by
  refine ⟨by omega, h, by simp [hn], fun i hi => ?_⟩
  rw [gt_set (by omega)]
  by_cases e : i = k
  · rw [if_pos e, e]; exact h
  · rw [if_neg e]; exact hm i (by omega)
theorem r3_set {s : List UInt8} {dir : Int} {l : List Int} {i k m : Nat} {v : Int} (him : i ≤ m) (hmk : m < k) (hk : k ≤ s.length) (hn : l.length = s.length) (hm : ∀ x, x < s.length → gt l x = if i ≤ x ∧ x < m then dval (cc s) dir s.length i k else e2 s dir i x) (h : v = dval (cc s) dir s.length i k) : i ≤ m + 1 ∧ m + 1 ≤ k ∧ (l.set m v).length = s.length ∧ ∀ x, x < s.length → gt (l.set m v) x = if i ≤ x ∧ x < m + 1 then dval (cc s) dir s.length i k else e2 s dir i x := by
  refine ⟨by omega, by omega, by simp [hn], fun x hx => ?_⟩
  rw [gt_set (by omega)]
  by_cases e : x = m
  · rw [if_pos e, if_pos (by omega)]; exact h
  · rw [if_neg e, hm x hx]
    by_cases e2 : i ≤ x ∧ x < m
    · rw [if_pos e2, if_pos (by omega)]
    · rw [if_neg e2, if_neg (by omega)]
set_option maxHeartbeats 4000000 in
theorem rdirs_ok (s : List UInt8) (dir : Int) (hV : VA s) (hd : dir = 0 ∨ dir = 1) : SemF Try.prog 26 [.str s, .int .i64 dir] ⟨0, 0, []⟩ (fun v h' => v = .grw 0 (DL s dir).length ∧ h' = ⟨1, 0, [(0, .arr [.int .i64] .own (.ints (DL s dir)))]⟩) := by
  have hl := hV.1
  refine enter tt_ok Try.func26 (nt := 105) (cd := body Try.f26) rfl rfl rfl rfl ?_
  intro _; refine ⟨⟨by omega, by omega, by rw [Int.toNat_natCast]; omega⟩, ?_⟩
  intro _; refine ⟨rfl, ?_⟩
  intro _
  refine loop2 tt_ok [7, 6] [0] 1 (fun k : R1 s dir => [(7, .int .i64 (k.1.1 : Nat)), (6, .int .i64 k.1.2.1)]) (fun k => [(0, .arr [.int .i64] .own (.ints k.1.2.2))]) (fun k => s.length - k.1.1) ⟨(0, dir, List.replicate s.length 0), by omega, rfl, by simp, fun i h => by simp only [] at h; omega⟩ ?_
  intro _
  refine ⟨⟨th [] 1, rfl, rfl, rfl, rfl, rfl, rfl, ?_, ?_⟩, ?_⟩
  · (repeat' first | exact trivial | exact rfl | refine And.intro ?_ ?_)
  · (repeat' first | exact trivial | exact rfl | refine And.intro ?_ ?_)
  intro ⟨⟨k, lt, l⟩, hk, hlt, hn, hm⟩
  simp only [] at hk hlt hn hm
  intro _; refine ⟨fun g => ?_, fun g => ?_⟩
  · have hkl := of_decide_eq_true (show decide ((k : Int) < (s.length : Int)) = true from g)
    have hks : k < s.length := by omega
    intro _; refine ⟨show 0 ≤ (k : Int) ∧ (k : Int) < (s.length : Int) by omega, ?_⟩
    intro _
    refine call_pure [] (rclass_ok (by' s k)) rfl rfl rfl ?_ ?_ ?_
    · (repeat' first | exact trivial | exact rfl | refine And.intro ?_ ?_)
    · (repeat' first | exact trivial | exact rfl | refine And.intro ?_ ?_)
    intro v hv _
    subst hv
    intro _; refine ⟨fun g => ?_, fun g => ?_⟩
    · have g : (cl (by' s k) == 1) = true := g
      have g1 : cc s k = 1 := by simpa using g
      have hw : 0 = lts (cc s) dir (k + 1) := by
        show _ = (if cc s k = 1 then 0 else if cc s k = 2 then 1 else lts (cc s) dir k)
        rw [if_pos g1]
      intro _; refine ⟨show 0 ≤ (k : Int) ∧ (k : Int) < (s.length : Int) by omega, ?_⟩
      intro _; refine ⟨show (k : Int).toNat < l.length by omega, ?_⟩
      refine ⟨⟨(k + 1, 0, l.set k (0)), r1_set hks hn hm hw⟩, by simp only []; omega, th [] 1, rfl, rfl, rfl, rfl, rfl, rfl, ?_, ?_⟩
      · (repeat' first | exact trivial | exact rfl | refine And.intro ?_ ?_)
        exact (wrap_nat k (by omega)).symm
      · (repeat' first | exact trivial | exact rfl | refine And.intro ?_ ?_)
    have g : (cl (by' s k) == 1) = false := g
    have g1 : ¬ cc s k = 1 := by simpa using g
    intro _; refine ⟨fun g => ?_, fun g => ?_⟩
    · have g : (cl (by' s k) == 2) = true := g
      have g2 : cc s k = 2 := by simpa using g
      have hw : 1 = lts (cc s) dir (k + 1) := by
        show _ = (if cc s k = 1 then 0 else if cc s k = 2 then 1 else lts (cc s) dir k)
        rw [if_neg g1, if_pos g2]
      intro _; refine ⟨show 0 ≤ (k : Int) ∧ (k : Int) < (s.length : Int) by omega, ?_⟩
      intro _; refine ⟨show (k : Int).toNat < l.length by omega, ?_⟩
      refine ⟨⟨(k + 1, 1, l.set k (1)), r1_set hks hn hm hw⟩, by simp only []; omega, th [] 1, rfl, rfl, rfl, rfl, rfl, rfl, ?_, ?_⟩
      · (repeat' first | exact trivial | exact rfl | refine And.intro ?_ ?_)
        exact (wrap_nat k (by omega)).symm
      · (repeat' first | exact trivial | exact rfl | refine And.intro ?_ ?_)
    have g : (cl (by' s k) == 2) = false := g
    have g2 : ¬ cc s k = 2 := by simpa using g
    have hw : lt = lts (cc s) dir (k + 1) := by
      show _ = (if cc s k = 1 then 0 else if cc s k = 2 then 1 else lts (cc s) dir k)
      rw [if_neg g1, if_neg g2]; exact hlt
    intro _; refine ⟨show 0 ≤ (k : Int) ∧ (k : Int) < (s.length : Int) by omega, ?_⟩
    intro _; refine ⟨show (k : Int).toNat < l.length by omega, ?_⟩
    refine ⟨⟨(k + 1, lt, l.set k (lt)), r1_set hks hn hm hw⟩, by simp only []; omega, th [] 1, rfl, rfl, rfl, rfl, rfl, rfl, ?_, ?_⟩
    · (repeat' first | exact trivial | exact rfl | refine And.intro ?_ ?_)
      exact (wrap_nat k (by omega)).symm
    · (repeat' first | exact trivial | exact rfl | refine And.intro ?_ ?_)
  have hkl := of_decide_eq_false (show decide ((k : Int) < (s.length : Int)) = false from g)
  have hkl : k = s.length := by omega
  subst hkl
  intro _
  refine loop2 tt_ok [8] [0] 1 (fun p : R2 s dir => [(8, .int .i64 (p.1.1 : Nat))]) (fun p => [(0, .arr [.int .i64] .own (.ints p.1.2))]) (fun p => s.length - p.1.1) ⟨(0, l), by simp only []; omega, hn, fun x hx => by
    rw [hm x hx]; unfold e2; rw [if_neg (fun q => by omega)]⟩ ?_
  intro _
  refine ⟨⟨th [] 1, rfl, rfl, rfl, rfl, rfl, rfl, ?_, ?_⟩, ?_⟩
  · (repeat' first | exact trivial | exact rfl | refine And.intro ?_ ?_)
  · (repeat' first | exact trivial | exact rfl | refine And.intro ?_ ?_)
  intro ⟨⟨i, l⟩, hi, hn, hm⟩
  simp only [] at hi hn hm
  intro _; refine ⟨fun g => ?_, fun g => ?_⟩
  rotate_left
  · have hfl := of_decide_eq_false (show decide ((i : Int) < (s.length : Int)) = false from g)
    have hii : i = s.length := by omega
    subst hii
    have e : l = DL s dir := mk_of hn fun x hx => (hm x hx).trans (e2_end hx)
    subst e
    intro _
    refine ⟨?_, rfl⟩
    show V.grw 0 _ = V.grw 0 _
    congr 1
    exact hn.symm
  have hil := of_decide_eq_true (show decide ((i : Int) < (s.length : Int)) = true from g)
  have his : i < s.length := by omega
  intro _; refine ⟨show 0 ≤ (i : Int) ∧ (i : Int) < (s.length : Int) by omega, ?_⟩
  intro _
  refine call_pure [] (neutral_ok s i (hV.2 i his)) rfl rfl rfl ?_ ?_ ?_
  · (repeat' first | exact trivial | exact rfl | refine And.intro ?_ ?_)
  · (repeat' first | exact trivial | exact rfl | refine And.intro ?_ ?_)
  intro v hv _
  subst hv
  intro _; refine ⟨fun g => ?_, fun g => ?_⟩
  · have g : (!Nt (cc s) i) = true := g
    have gn : Nt (cc s) i = false := by rw [Bool.not_eq_true'] at g; exact g
    refine ⟨⟨(i + 1, l), by simp only []; omega, hn, fun x hx => by rw [hm x hx]; exact (e2_skip (.inl gn)).symm⟩, by simp only []; omega, th [] 1, rfl, rfl, rfl, rfl, rfl, rfl, ?_, ?_⟩
    · (repeat' first | exact trivial | exact rfl | refine And.intro ?_ ?_)
      exact (wrap_nat i (by omega)).symm
    · (repeat' first | exact trivial | exact rfl | refine And.intro ?_ ?_)
  have g : (!Nt (cc s) i) = false := g
  have gn : Nt (cc s) i = true := by rw [Bool.not_eq_false'] at g; exact g
  intro _; refine ⟨fun g => ?_, fun g => ?_⟩
  · have hi0 := of_decide_eq_true (show decide ((i : Int) > 0) = true from g)
    have hi0 : 0 < i := by omega
    have eF : IntKind.i64.wrap ((i : Int) - 1) = ((i - 1 : Nat) : Int) := by rw [wrapS _ ⟨by omega, by omega⟩]; omega
    have eB : by' s (IntKind.i64.wrap ((i : Int) - 1)).toNat = by' s (i - 1) := by rw [eF]; rfl
    intro _; refine ⟨show 0 ≤ IntKind.i64.wrap ((i : Int) - 1) ∧ IntKind.i64.wrap ((i : Int) - 1) < (s.length : Int) by rw [eF]; omega, ?_⟩
    intro _
    refine call_pure [] (neutral_ok s (i - 1) (hV.2 _ (by omega))) rfl rfl rfl ?_ ?_ ?_
    · (repeat' first | exact trivial | exact rfl | refine And.intro ?_ ?_)
    · (repeat' first | exact trivial | exact rfl | refine And.intro ?_ ?_)
      all_goals (exact eB.symm)
    intro v hv _
    subst hv
    intro _; refine ⟨fun g => ?_, fun g => ?_⟩
    · have gp : Nt (cc s) (i - 1) = true := g
      refine ⟨⟨(i + 1, l), by simp only []; omega, hn, fun x hx => by rw [hm x hx]; exact (e2_skip (.inr ⟨hi0, gp⟩)).symm⟩, by simp only []; omega, th [] 1, rfl, rfl, rfl, rfl, rfl, rfl, ?_, ?_⟩
      · (repeat' first | exact trivial | exact rfl | refine And.intro ?_ ?_)
        exact (wrap_nat i (by omega)).symm
      · (repeat' first | exact trivial | exact rfl | refine And.intro ?_ ?_)
    have gp : Nt (cc s) (i - 1) = false := g
    have hlo : i = 0 ∨ Nt (cc s) (i - 1) = false := .inr gp
    intro _; refine ⟨fun _ => ?_, fun g => absurd g (by rw [show decide ((i : Int) > 0) = true from decide_eq_true (by omega)]; decide)⟩
    intro _; refine ⟨show 0 ≤ IntKind.i64.wrap ((i : Int) - 1) ∧ IntKind.i64.wrap ((i : Int) - 1) < (s.length : Int) by rw [eF]; omega, ?_⟩
    intro _; refine ⟨show (IntKind.i64.wrap ((i : Int) - 1)).toNat < l.length by rw [eF]; omega, ?_⟩
    have eX : l.getD (IntKind.i64.wrap ((i : Int) - 1)).toNat 0 = rwd (cc s) dir (i - 1) := by
      rw [eF, ← e2_out (i := i) gp]; exact hm (i - 1) (by omega)
    intro _
    refine loop2 tt_ok [10] [] 1 (fun q : { q : Nat // i ≤ q ∧ q ≤ s.length ∧ ∀ x, i ≤ x → x < q → Nt (cc s) x = true } => [(10, .int .i64 (q.1 : Nat))]) (fun _ => []) (fun q => s.length - q.1) ⟨i, Nat.le_refl _, by omega, fun x h1 h2 => by omega⟩ ?_
    intro _
    refine ⟨⟨th [] 1, rfl, rfl, rfl, rfl, rfl, rfl, ?_, ?_⟩, ?_⟩
    · (repeat' first | exact trivial | exact rfl | refine And.intro ?_ ?_)
    · (repeat' first | exact trivial | exact rfl | refine And.intro ?_ ?_)
    intro ⟨k, h1, h2, hrun⟩
    intro _; refine ⟨fun g => ?_, fun g => ?_⟩
    · have hal := of_decide_eq_true (show decide ((k : Int) < (s.length : Int)) = true from g)
      have hks : k < s.length := by omega
      intro _; refine ⟨show 0 ≤ (k : Int) ∧ (k : Int) < (s.length : Int) by omega, ?_⟩
      intro _
      refine call_pure [] (neutral_ok s k (hV.2 k hks)) rfl rfl rfl ?_ ?_ ?_
      · (repeat' first | exact trivial | exact rfl | refine And.intro ?_ ?_)
      · (repeat' first | exact trivial | exact rfl | refine And.intro ?_ ?_)
      intro v hv _
      subst hv
      intro _; refine ⟨fun g => ?_, fun g => ?_⟩
      · have gk : Nt (cc s) k = true := g
        refine ⟨⟨k + 1, by omega, by omega, fun x h3 h4 => ?_⟩, by simp only []; omega, th [] 1, rfl, rfl, rfl, rfl, rfl, rfl, ?_, ?_⟩
        · by_cases e : x = k
          · rw [e]; exact gk
          · exact hrun x h3 (by omega)
        · (repeat' first | exact trivial | exact rfl | refine And.intro ?_ ?_)
          exact (wrap_nat k (by omega)).symm
        · (repeat' first | exact trivial | exact rfl | refine And.intro ?_ ?_)
      have gk : Nt (cc s) k = false := g
      have hR : Run (Nt (cc s)) s.length i k := ⟨h1, h2, hrun, hlo, .inr gk⟩
      have eY : l.getD (k : Int).toNat 0 = rwd (cc s) dir k := by
        rw [← e2_out (i := i) gk]; exact hm k hks
      intro _; refine ⟨fun _ => ?_, fun g => absurd g (by rw [show decide ((k : Int) < (s.length : Int)) = true from decide_eq_true (by omega)]; decide)⟩
      intro _; refine ⟨show 0 ≤ (k : Int) ∧ (k : Int) < (s.length : Int) by omega, ?_⟩
      intro _; refine ⟨show (k : Int).toNat < l.length by omega, ?_⟩
      have hdv : dval (cc s) dir s.length i k = if l.getD (IntKind.i64.wrap ((i : Int) - 1)).toNat 0 = l.getD (k : Int).toNat 0 then l.getD (IntKind.i64.wrap ((i : Int) - 1)).toNat 0 else dir := by
        rw [eX, eY]
        unfold dval
        simp only [eq_true hi0, eq_true hks, if_true, if_false, ite_true, ite_false]
      intro _
      refine loop2 tt_ok [12] [0] 1 (fun p : R3 s dir i k => [(12, .int .i64 (p.1.1 : Nat))]) (fun p => [(0, .arr [.int .i64] .own (.ints p.1.2))]) (fun p => k - p.1.1) ⟨(i, l), Nat.le_refl _, by simp only []; omega, hn, fun x hx => by
        rw [hm x hx, if_neg (fun q => by simp only [] at q; omega)]⟩ ?_
      intro _
      refine ⟨⟨th [] 1, rfl, rfl, rfl, rfl, rfl, rfl, ?_, ?_⟩, ?_⟩
      · (repeat' first | exact trivial | exact rfl | refine And.intro ?_ ?_)
      · (repeat' first | exact trivial | exact rfl | refine And.intro ?_ ?_)
      intro ⟨⟨m, l'⟩, him, hmk, hn', hm'⟩
      simp only [] at him hmk hn' hm'
      intro _; refine ⟨fun g => ?_, fun g => ?_⟩
      rotate_left
      · have hml := of_decide_eq_false (show decide ((m : Int) < (k : Int)) = false from g)
        have hml : m = k := by omega
        subst hml
        refine ⟨⟨(i + 1, l'), by simp only []; omega, hn', fun x hx => by rw [hm' x hx]; exact (e2_run hR hx).symm⟩, by simp only []; omega, th [] 1, rfl, rfl, rfl, rfl, rfl, rfl, ?_, ?_⟩
        · (repeat' first | exact trivial | exact rfl | refine And.intro ?_ ?_)
          exact (wrap_nat i (by omega)).symm
        · (repeat' first | exact trivial | exact rfl | refine And.intro ?_ ?_)
      have hml := of_decide_eq_true (show decide ((m : Int) < (k : Int)) = true from g)
      intro _; refine ⟨show 0 ≤ (m : Int) ∧ (m : Int) < (s.length : Int) by omega, ?_⟩
      intro _; refine ⟨show (m : Int).toNat < l'.length by omega, ?_⟩
      intro _; refine ⟨fun g => ?_, fun g => ?_⟩
      · have g : ((l.getD (IntKind.i64.wrap ((i : Int) - 1)).toNat 0) == (l.getD (k : Int).toNat 0)) = true := g
        have ge := eq_of_beq g
        rw [if_pos ge] at hdv
        intro _; refine ⟨show 0 ≤ (m : Int) ∧ (m : Int) < (s.length : Int) by omega, ?_⟩
        intro _; refine ⟨show (m : Int).toNat < (l'.set (m : Int).toNat dir).length by rw [List.length_set]; omega, ?_⟩
        refine ⟨⟨(m + 1, l'.set m (l.getD (IntKind.i64.wrap ((i : Int) - 1)).toNat 0)), r3_set him (by omega) h2 hn' hm' hdv.symm⟩, by simp only []; omega, th [] 1, rfl, rfl, rfl, rfl, rfl, rfl, ?_, ?_⟩
        · (repeat' first | exact trivial | exact rfl | refine And.intro ?_ ?_)
          exact (wrap_nat m (by omega)).symm
        · (repeat' first | exact trivial | exact rfl | refine And.intro ?_ ?_)
          all_goals (exact (List.set_set dir).symm)
      · have g : ((l.getD (IntKind.i64.wrap ((i : Int) - 1)).toNat 0) == (l.getD (k : Int).toNat 0)) = false := g
        have ge : ¬ (l.getD (IntKind.i64.wrap ((i : Int) - 1)).toNat 0) = (l.getD (k : Int).toNat 0) := fun e => by
          have := beq_iff_eq.2 e
          rw [g] at this; cases this
        rw [if_neg ge] at hdv
        refine ⟨⟨(m + 1, l'.set m dir), r3_set him (by omega) h2 hn' hm' hdv.symm⟩, by simp only []; omega, th [] 1, rfl, rfl, rfl, rfl, rfl, rfl, ?_, ?_⟩
        · (repeat' first | exact trivial | exact rfl | refine And.intro ?_ ?_)
          exact (wrap_nat m (by omega)).symm
        · (repeat' first | exact trivial | exact rfl | refine And.intro ?_ ?_)
    have hal := of_decide_eq_false (show decide ((k : Int) < (s.length : Int)) = false from g)
    have hkn : k = s.length := by omega
    have hR : Run (Nt (cc s)) s.length i k := ⟨h1, h2, hrun, hlo, .inl hkn⟩
    intro _; refine ⟨fun g => absurd g (by rw [show decide ((k : Int) < (s.length : Int)) = false from decide_eq_false (by omega)]; decide), fun _ => ?_⟩
    have hdv : dval (cc s) dir s.length i k = if l.getD (IntKind.i64.wrap ((i : Int) - 1)).toNat 0 = dir then l.getD (IntKind.i64.wrap ((i : Int) - 1)).toNat 0 else dir := by
      rw [eX]
      unfold dval
      simp only [eq_true hi0, eq_false (show ¬ k < s.length by omega), if_true, if_false, ite_true, ite_false]
    intro _
    refine loop2 tt_ok [12] [0] 1 (fun p : R3 s dir i k => [(12, .int .i64 (p.1.1 : Nat))]) (fun p => [(0, .arr [.int .i64] .own (.ints p.1.2))]) (fun p => k - p.1.1) ⟨(i, l), Nat.le_refl _, by simp only []; omega, hn, fun x hx => by
      rw [hm x hx, if_neg (fun q => by simp only [] at q; omega)]⟩ ?_
    intro _
    refine ⟨⟨th [] 1, rfl, rfl, rfl, rfl, rfl, rfl, ?_, ?_⟩, ?_⟩
    · (repeat' first | exact trivial | exact rfl | refine And.intro ?_ ?_)
    · (repeat' first | exact trivial | exact rfl | refine And.intro ?_ ?_)
    intro ⟨⟨m, l'⟩, him, hmk, hn', hm'⟩
    simp only [] at him hmk hn' hm'
    intro _; refine ⟨fun g => ?_, fun g => ?_⟩
    rotate_left
    · have hml := of_decide_eq_false (show decide ((m : Int) < (k : Int)) = false from g)
      have hml : m = k := by omega
      subst hml
      refine ⟨⟨(i + 1, l'), by simp only []; omega, hn', fun x hx => by rw [hm' x hx]; exact (e2_run hR hx).symm⟩, by simp only []; omega, th [] 1, rfl, rfl, rfl, rfl, rfl, rfl, ?_, ?_⟩
      · (repeat' first | exact trivial | exact rfl | refine And.intro ?_ ?_)
        exact (wrap_nat i (by omega)).symm
      · (repeat' first | exact trivial | exact rfl | refine And.intro ?_ ?_)
    have hml := of_decide_eq_true (show decide ((m : Int) < (k : Int)) = true from g)
    intro _; refine ⟨show 0 ≤ (m : Int) ∧ (m : Int) < (s.length : Int) by omega, ?_⟩
    intro _; refine ⟨show (m : Int).toNat < l'.length by omega, ?_⟩
    intro _; refine ⟨fun g => ?_, fun g => ?_⟩
    · have g : ((l.getD (IntKind.i64.wrap ((i : Int) - 1)).toNat 0) == (dir)) = true := g
      have ge := eq_of_beq g
      rw [if_pos ge] at hdv
      intro _; refine ⟨show 0 ≤ (m : Int) ∧ (m : Int) < (s.length : Int) by omega, ?_⟩
      intro _; refine ⟨show (m : Int).toNat < (l'.set (m : Int).toNat dir).length by rw [List.length_set]; omega, ?_⟩
      refine ⟨⟨(m + 1, l'.set m (l.getD (IntKind.i64.wrap ((i : Int) - 1)).toNat 0)), r3_set him (by omega) h2 hn' hm' hdv.symm⟩, by simp only []; omega, th [] 1, rfl, rfl, rfl, rfl, rfl, rfl, ?_, ?_⟩
      · (repeat' first | exact trivial | exact rfl | refine And.intro ?_ ?_)
        exact (wrap_nat m (by omega)).symm
      · (repeat' first | exact trivial | exact rfl | refine And.intro ?_ ?_)
        all_goals (exact (List.set_set dir).symm)
    · have g : ((l.getD (IntKind.i64.wrap ((i : Int) - 1)).toNat 0) == (dir)) = false := g
      have ge : ¬ (l.getD (IntKind.i64.wrap ((i : Int) - 1)).toNat 0) = (dir) := fun e => by
        have := beq_iff_eq.2 e
        rw [g] at this; cases this
      rw [if_neg ge] at hdv
      refine ⟨⟨(m + 1, l'.set m dir), r3_set him (by omega) h2 hn' hm' hdv.symm⟩, by simp only []; omega, th [] 1, rfl, rfl, rfl, rfl, rfl, rfl, ?_, ?_⟩
      · (repeat' first | exact trivial | exact rfl | refine And.intro ?_ ?_)
        exact (wrap_nat m (by omega)).symm
      · (repeat' first | exact trivial | exact rfl | refine And.intro ?_ ?_)
  have hi0 := of_decide_eq_false (show decide ((i : Int) > 0) = false from g)
  have hi0 : ¬ 0 < i := by omega
  have hlo : i = 0 ∨ Nt (cc s) (i - 1) = false := .inl (by omega)
  intro _; refine ⟨fun g => absurd g (by rw [show decide ((i : Int) > 0) = false from decide_eq_false (by omega)]; decide), fun _ => ?_⟩
  intro _
  refine loop2 tt_ok [10] [] 1 (fun q : { q : Nat // i ≤ q ∧ q ≤ s.length ∧ ∀ x, i ≤ x → x < q → Nt (cc s) x = true } => [(10, .int .i64 (q.1 : Nat))]) (fun _ => []) (fun q => s.length - q.1) ⟨i, Nat.le_refl _, by omega, fun x h1 h2 => by omega⟩ ?_
  intro _
  refine ⟨⟨th [] 1, rfl, rfl, rfl, rfl, rfl, rfl, ?_, ?_⟩, ?_⟩
  · (repeat' first | exact trivial | exact rfl | refine And.intro ?_ ?_)
  · (repeat' first | exact trivial | exact rfl | refine And.intro ?_ ?_)
  intro ⟨k, h1, h2, hrun⟩
  intro _; refine ⟨fun g => ?_, fun g => ?_⟩
  · have hal := of_decide_eq_true (show decide ((k : Int) < (s.length : Int)) = true from g)
    have hks : k < s.length := by omega
    intro _; refine ⟨show 0 ≤ (k : Int) ∧ (k : Int) < (s.length : Int) by omega, ?_⟩
    intro _
    refine call_pure [] (neutral_ok s k (hV.2 k hks)) rfl rfl rfl ?_ ?_ ?_
    · (repeat' first | exact trivial | exact rfl | refine And.intro ?_ ?_)
    · (repeat' first | exact trivial | exact rfl | refine And.intro ?_ ?_)
    intro v hv _
    subst hv
    intro _; refine ⟨fun g => ?_, fun g => ?_⟩
    · have gk : Nt (cc s) k = true := g
      refine ⟨⟨k + 1, by omega, by omega, fun x h3 h4 => ?_⟩, by simp only []; omega, th [] 1, rfl, rfl, rfl, rfl, rfl, rfl, ?_, ?_⟩
      · by_cases e : x = k
        · rw [e]; exact gk
        · exact hrun x h3 (by omega)
      · (repeat' first | exact trivial | exact rfl | refine And.intro ?_ ?_)
        exact (wrap_nat k (by omega)).symm
      · (repeat' first | exact trivial | exact rfl | refine And.intro ?_ ?_)
    have gk : Nt (cc s) k = false := g
    have hR : Run (Nt (cc s)) s.length i k := ⟨h1, h2, hrun, hlo, .inr gk⟩
    have eY : l.getD (k : Int).toNat 0 = rwd (cc s) dir k := by
      rw [← e2_out (i := i) gk]; exact hm k hks
    intro _; refine ⟨fun _ => ?_, fun g => absurd g (by rw [show decide ((k : Int) < (s.length : Int)) = true from decide_eq_true (by omega)]; decide)⟩
    intro _; refine ⟨show 0 ≤ (k : Int) ∧ (k : Int) < (s.length : Int) by omega, ?_⟩
    intro _; refine ⟨show (k : Int).toNat < l.length by omega, ?_⟩
    have hdv : dval (cc s) dir s.length i k = if dir = l.getD (k : Int).toNat 0 then dir else dir := by
      rw [eY]
      unfold dval
      simp only [eq_false hi0, eq_true hks, if_true, if_false, ite_true, ite_false]
    intro _
    refine loop2 tt_ok [12] [0] 1 (fun p : R3 s dir i k => [(12, .int .i64 (p.1.1 : Nat))]) (fun p => [(0, .arr [.int .i64] .own (.ints p.1.2))]) (fun p => k - p.1.1) ⟨(i, l), Nat.le_refl _, by simp only []; omega, hn, fun x hx => by
      rw [hm x hx, if_neg (fun q => by simp only [] at q; omega)]⟩ ?_
    intro _
    refine ⟨⟨th [] 1, rfl, rfl, rfl, rfl, rfl, rfl, ?_, ?_⟩, ?_⟩
    · (repeat' first | exact trivial | exact rfl | refine And.intro ?_ ?_)
    · (repeat' first | exact trivial | exact rfl | refine And.intro ?_ ?_)
    intro ⟨⟨m, l'⟩, him, hmk, hn', hm'⟩
    simp only [] at him hmk hn' hm'
    intro _; refine ⟨fun g => ?_, fun g => ?_⟩
    rotate_left
    · have hml := of_decide_eq_false (show decide ((m : Int) < (k : Int)) = false from g)
      have hml : m = k := by omega
      subst hml
      refine ⟨⟨(i + 1, l'), by simp only []; omega, hn', fun x hx => by rw [hm' x hx]; exact (e2_run hR hx).symm⟩, by simp only []; omega, th [] 1, rfl, rfl, rfl, rfl, rfl, rfl, ?_, ?_⟩
      · (repeat' first | exact trivial | exact rfl | refine And.intro ?_ ?_)
        exact (wrap_nat i (by omega)).symm
      · (repeat' first | exact trivial | exact rfl | refine And.intro ?_ ?_)
    have hml := of_decide_eq_true (show decide ((m : Int) < (k : Int)) = true from g)
    intro _; refine ⟨show 0 ≤ (m : Int) ∧ (m : Int) < (s.length : Int) by omega, ?_⟩
    intro _; refine ⟨show (m : Int).toNat < l'.length by omega, ?_⟩
    intro _; refine ⟨fun g => ?_, fun g => ?_⟩
    · have g : ((dir) == (l.getD (k : Int).toNat 0)) = true := g
      have ge := eq_of_beq g
      rw [if_pos ge] at hdv
      intro _; refine ⟨show 0 ≤ (m : Int) ∧ (m : Int) < (s.length : Int) by omega, ?_⟩
      intro _; refine ⟨show (m : Int).toNat < (l'.set (m : Int).toNat dir).length by rw [List.length_set]; omega, ?_⟩
      refine ⟨⟨(m + 1, l'.set m (dir)), r3_set him (by omega) h2 hn' hm' hdv.symm⟩, by simp only []; omega, th [] 1, rfl, rfl, rfl, rfl, rfl, rfl, ?_, ?_⟩
      · (repeat' first | exact trivial | exact rfl | refine And.intro ?_ ?_)
        exact (wrap_nat m (by omega)).symm
      · (repeat' first | exact trivial | exact rfl | refine And.intro ?_ ?_)
        all_goals (exact (List.set_set dir).symm)
    · have g : ((dir) == (l.getD (k : Int).toNat 0)) = false := g
      have ge : ¬ (dir) = (l.getD (k : Int).toNat 0) := fun e => by
        have := beq_iff_eq.2 e
        rw [g] at this; cases this
      rw [if_neg ge] at hdv
      refine ⟨⟨(m + 1, l'.set m dir), r3_set him (by omega) h2 hn' hm' hdv.symm⟩, by simp only []; omega, th [] 1, rfl, rfl, rfl, rfl, rfl, rfl, ?_, ?_⟩
      · (repeat' first | exact trivial | exact rfl | refine And.intro ?_ ?_)
        exact (wrap_nat m (by omega)).symm
      · (repeat' first | exact trivial | exact rfl | refine And.intro ?_ ?_)
  have hal := of_decide_eq_false (show decide ((k : Int) < (s.length : Int)) = false from g)
  have hkn : k = s.length := by omega
  have hR : Run (Nt (cc s)) s.length i k := ⟨h1, h2, hrun, hlo, .inl hkn⟩
  intro _; refine ⟨fun g => absurd g (by rw [show decide ((k : Int) < (s.length : Int)) = false from decide_eq_false (by omega)]; decide), fun _ => ?_⟩
  have hdv : dval (cc s) dir s.length i k = if dir = dir then dir else dir := by
    skip
    unfold dval
    simp only [eq_false hi0, eq_false (show ¬ k < s.length by omega), if_true, if_false, ite_true, ite_false]
  intro _
  refine loop2 tt_ok [12] [0] 1 (fun p : R3 s dir i k => [(12, .int .i64 (p.1.1 : Nat))]) (fun p => [(0, .arr [.int .i64] .own (.ints p.1.2))]) (fun p => k - p.1.1) ⟨(i, l), Nat.le_refl _, by simp only []; omega, hn, fun x hx => by
    rw [hm x hx, if_neg (fun q => by simp only [] at q; omega)]⟩ ?_
  intro _
  refine ⟨⟨th [] 1, rfl, rfl, rfl, rfl, rfl, rfl, ?_, ?_⟩, ?_⟩
  · (repeat' first | exact trivial | exact rfl | refine And.intro ?_ ?_)
  · (repeat' first | exact trivial | exact rfl | refine And.intro ?_ ?_)
  intro ⟨⟨m, l'⟩, him, hmk, hn', hm'⟩
  simp only [] at him hmk hn' hm'
  intro _; refine ⟨fun g => ?_, fun g => ?_⟩
  rotate_left
  · have hml := of_decide_eq_false (show decide ((m : Int) < (k : Int)) = false from g)
    have hml : m = k := by omega
    subst hml
    refine ⟨⟨(i + 1, l'), by simp only []; omega, hn', fun x hx => by rw [hm' x hx]; exact (e2_run hR hx).symm⟩, by simp only []; omega, th [] 1, rfl, rfl, rfl, rfl, rfl, rfl, ?_, ?_⟩
    · (repeat' first | exact trivial | exact rfl | refine And.intro ?_ ?_)
      exact (wrap_nat i (by omega)).symm
    · (repeat' first | exact trivial | exact rfl | refine And.intro ?_ ?_)
  have hml := of_decide_eq_true (show decide ((m : Int) < (k : Int)) = true from g)
  intro _; refine ⟨show 0 ≤ (m : Int) ∧ (m : Int) < (s.length : Int) by omega, ?_⟩
  intro _; refine ⟨show (m : Int).toNat < l'.length by omega, ?_⟩
  intro _; refine ⟨fun g => ?_, fun g => ?_⟩
  · have g : ((dir) == (dir)) = true := g
    have ge := eq_of_beq g
    rw [if_pos ge] at hdv
    intro _; refine ⟨show 0 ≤ (m : Int) ∧ (m : Int) < (s.length : Int) by omega, ?_⟩
    intro _; refine ⟨show (m : Int).toNat < (l'.set (m : Int).toNat dir).length by rw [List.length_set]; omega, ?_⟩
    refine ⟨⟨(m + 1, l'.set m (dir)), r3_set him (by omega) h2 hn' hm' hdv.symm⟩, by simp only []; omega, th [] 1, rfl, rfl, rfl, rfl, rfl, rfl, ?_, ?_⟩
    · (repeat' first | exact trivial | exact rfl | refine And.intro ?_ ?_)
      exact (wrap_nat m (by omega)).symm
    · (repeat' first | exact trivial | exact rfl | refine And.intro ?_ ?_)
      all_goals (exact (List.set_set dir).symm)
  · have g : ((dir) == (dir)) = false := g
    have ge : ¬ (dir) = (dir) := fun e => by
      have := beq_iff_eq.2 e
      rw [g] at this; cases this
    rw [if_neg ge] at hdv
    refine ⟨⟨(m + 1, l'.set m dir), r3_set him (by omega) h2 hn' hm' hdv.symm⟩, by simp only []; omega, th [] 1, rfl, rfl, rfl, rfl, rfl, rfl, ?_, ?_⟩
    · (repeat' first | exact trivial | exact rfl | refine And.intro ?_ ?_)
      exact (wrap_nat m (by omega)).symm
    · (repeat' first | exact trivial | exact rfl | refine And.intro ?_ ?_)
set_option maxHeartbeats 4000000 in
theorem rLevels_ok (s : List UInt8) (dir : Int) (hV : VA s) (hd : dir = 0 ∨ dir = 1) : SemF Try.prog 12 [.str s, .int .i64 dir] ⟨0, 0, []⟩ (fun v h' => v = .tup [.grw 0 (LL s dir).length, .int .i64 0] ∧ h' = ⟨1, 0, [(0, .arr [.int .i64] .own (.ints (LL s dir)))]⟩) := by
  have hl := hV.1
  have hDL : (DL s dir).length = s.length := mk_len _ _
  refine enter tt_ok Try.func12 (nt := 55) (cd := body Try.f12) rfl rfl rfl rfl ?_
  intro _
  refine call_pure [] (line_ok s dir (by omega)) rfl rfl rfl ?_ ?_ ?_
  · (repeat' first | exact trivial | exact rfl | refine And.intro ?_ ?_)
  · (repeat' first | exact trivial | exact rfl | refine And.intro ?_ ?_)
  intro v hv _
  subst hv
  intro _; refine ⟨fun g => ?_, fun g => ?_⟩
  · exfalso
    have g : (!decide (VA s ∧ (dir = 0 ∨ dir = 1))) = true := g
    rw [decide_eq_true ⟨hV, hd⟩] at g
    cases g
  intro _
  refine call_new [] (rdirs_ok s dir hV hd) rfl rfl rfl rfl ?_ ?_ ?_
  · (repeat' first | exact trivial | exact rfl | refine And.intro ?_ ?_)
  · (repeat' first | exact trivial | exact rfl | refine And.intro ?_ ?_)
  intro v h' hv
  obtain ⟨rfl, rfl⟩ := hv
  refine ⟨[(0, some 0)], 1, [(0, .arr [.int .i64] .own (.ints (DL s dir)))], .grw 0 (DL s dir).length, rfl, rfl, rfl, rfl, rfl, ?_, ?_, ?_⟩
  · (repeat' first | exact trivial | exact rfl | refine And.intro ?_ ?_)
  · (repeat' first | exact trivial | exact rfl | refine And.intro ?_ ?_)
  intro _
  refine loop2 tt_ok [7] [0] 1 (fun k : J4 s dir => [(7, .int .i64 (k.1.1 : Nat))]) (fun k => [(0, .arr [.int .i64] .own (.ints k.1.2))]) (fun k => s.length - k.1.1) ⟨(0, DL s dir), by simp only []; omega, hDL, fun i h => by simp only [] at h; omega, fun i hi _ => gt_mk _ hi⟩ ?_
  intro _
  refine ⟨⟨th [] 1, rfl, rfl, rfl, rfl, rfl, rfl, ?_, ?_⟩, ?_⟩
  · (repeat' first | exact trivial | exact rfl | refine And.intro ?_ ?_)
  · (repeat' first | exact trivial | exact rfl | refine And.intro ?_ ?_)
  intro ⟨⟨k, l'⟩, hk, hn', hm', hr⟩
  simp only [] at hk hn' hm' hr
  intro _; refine ⟨fun g => ?_, fun g => ?_⟩
  rotate_left
  · have hkl := of_decide_eq_false (show decide ((k : Int) < (s.length : Int)) = false from g)
    have hkl : k = s.length := by omega
    have e : l' = LL s dir := mk_of hn' fun i hi => hm' i (by omega)
    subst e
    intro _
    refine ⟨?_, rfl⟩
    show V.tup [.grw 0 _, _] = V.tup [.grw 0 _, _]
    rw [hDL, hn']
  have hkl := of_decide_eq_true (show decide ((k : Int) < (s.length : Int)) = true from g)
  have hks : k < s.length := by omega
  have eg : l'.getD (k : Int).toNat 0 = dd (cc s) dir s.length k := hr k hks (Nat.le_refl _)
  have hd01 := dd01 (c := cc s) (dir := dir) (n := s.length) hd hks
  have hkD : 0 ≤ (k : Int) ∧ (k : Int) < ((DL s dir).length : Int) := by omega
  have hkT : (k : Int).toNat < l'.length := by omega
  intro _; refine ⟨show 0 ≤ (k : Int) ∧ (k : Int) < (s.length : Int) by omega, ?_⟩
  intro _
  refine call_pure [] (rclass_ok (by' s k)) rfl rfl rfl ?_ ?_ ?_
  · (repeat' first | exact trivial | exact rfl | refine And.intro ?_ ?_)
  · (repeat' first | exact trivial | exact rfl | refine And.intro ?_ ?_)
  intro v hv _
  subst hv
  intro _; refine ⟨hkD, ?_⟩
  intro _; refine ⟨hkT, ?_⟩
  intro _; refine ⟨fun g => ?_, fun g => ?_⟩
  · have g : (l'.getD (k : Int).toNat 0 == 1) = true := g
    have g1 : dd (cc s) dir s.length k = 1 := by rw [← eg]; exact eq_of_beq g
    intro _; refine ⟨fun g => ?_, fun g => ?_⟩
    · have g : (!(cl (by' s k) == 3)) = true := g
      have g3 : ¬ cc s k = 3 := fun e => by
        rw [beq_iff_eq.2 (show cl (by' s k) = 3 from e)] at g; cases g
      intro _; refine ⟨hkD, ?_⟩
      intro _; refine ⟨hkT, ?_⟩
      refine ⟨⟨(k + 1, l'.set k 1), j4_set hks hn' hm' hr (by unfold lev; rw [if_neg g3, if_pos g1])⟩, by simp only []; omega, th [] 1, rfl, rfl, rfl, rfl, rfl, rfl, ?_, ?_⟩
      · (repeat' first | exact trivial | exact rfl | refine And.intro ?_ ?_)
        exact (wrap_nat k (by omega)).symm
      · (repeat' first | exact trivial | exact rfl | refine And.intro ?_ ?_)
    have g : (!(cl (by' s k) == 3)) = false := g
    have g3 : cc s k = 3 := by
      rw [Bool.not_eq_false'] at g; exact eq_of_beq g
    intro _; refine ⟨fun g => ?_, fun g => ?_⟩
    · have g : (dir == 0) = true := g
      intro _; refine ⟨hkD, ?_⟩
      intro _; refine ⟨hkT, ?_⟩
      intro _; refine ⟨fun g => ?_, fun g => ?_⟩
      · exfalso
        have g : (l'.getD (k : Int).toNat 0 == 0) = true := g
        have := eq_of_beq g
        omega
      intro _; refine ⟨hkD, ?_⟩
      intro _; refine ⟨hkT, ?_⟩
      refine ⟨⟨(k + 1, l'.set k 2), j4_set hks hn' hm' hr (by unfold lev; rw [if_pos g3, g1]; split <;> rfl)⟩, by simp only []; omega, th [] 1, rfl, rfl, rfl, rfl, rfl, rfl, ?_, ?_⟩
      · (repeat' first | exact trivial | exact rfl | refine And.intro ?_ ?_)
        exact (wrap_nat k (by omega)).symm
      · (repeat' first | exact trivial | exact rfl | refine And.intro ?_ ?_)
    intro _; refine ⟨hkD, ?_⟩
    intro _; refine ⟨hkT, ?_⟩
    refine ⟨⟨(k + 1, l'.set k 2), j4_set hks hn' hm' hr (by unfold lev; rw [if_pos g3, g1]; split <;> rfl)⟩, by simp only []; omega, th [] 1, rfl, rfl, rfl, rfl, rfl, rfl, ?_, ?_⟩
    · (repeat' first | exact trivial | exact rfl | refine And.intro ?_ ?_)
      exact (wrap_nat k (by omega)).symm
    · (repeat' first | exact trivial | exact rfl | refine And.intro ?_ ?_)
  have g : (l'.getD (k : Int).toNat 0 == 1) = false := g
  have g1 : dd (cc s) dir s.length k = 0 := by
    rcases hd01 with h | h
    · exact h
    · rw [eg, h] at g; exact absurd g (by decide)
  intro _; refine ⟨fun g => ?_, fun g => ?_⟩
  · have g : (dir == 0) = true := g
    have gd : dir = 0 := eq_of_beq g
    intro _; refine ⟨hkD, ?_⟩
    intro _; refine ⟨hkT, ?_⟩
    intro _; refine ⟨fun g => ?_, fun g => ?_⟩
    · skip
      intro _; refine ⟨hkD, ?_⟩
      intro _; refine ⟨hkT, ?_⟩
      refine ⟨⟨(k + 1, l'.set k 0), j4_set hks hn' hm' hr (by unfold lev; rw [g1, gd]; split <;> rfl)⟩, by simp only []; omega, th [] 1, rfl, rfl, rfl, rfl, rfl, rfl, ?_, ?_⟩
      · (repeat' first | exact trivial | exact rfl | refine And.intro ?_ ?_)
        exact (wrap_nat k (by omega)).symm
      · (repeat' first | exact trivial | exact rfl | refine And.intro ?_ ?_)
    exfalso
    have g : (l'.getD (k : Int).toNat 0 == 0) = false := g
    rw [eg, g1] at g
    exact absurd g (by decide)
  have g : (dir == 0) = false := g
  have gd : dir = 1 := by
    rcases hd with h | h
    · rw [h] at g; exact absurd g (by decide)
    · exact h
  intro _; refine ⟨hkD, ?_⟩
  intro _; refine ⟨hkT, ?_⟩
  refine ⟨⟨(k + 1, l'.set k 2), j4_set hks hn' hm' hr (by unfold lev; rw [g1, gd]; split <;> rfl)⟩, by simp only []; omega, th [] 1, rfl, rfl, rfl, rfl, rfl, rfl, ?_, ?_⟩
  · (repeat' first | exact trivial | exact rfl | refine And.intro ?_ ?_)
    exact (wrap_nat k (by omega)).symm
  · (repeat' first | exact trivial | exact rfl | refine And.intro ?_ ?_)
theorem rLevels_err (s : List UInt8) (dir : Int) (hl : s.length ≤ 9223372036854775807) (hE : ¬ (VA s ∧ (dir = 0 ∨ dir = 1))) : SemF Try.prog 12 [.str s, .int .i64 dir] ⟨0, 0, []⟩ (fun v _ => v = .tup [.nils, .int .i64 1] ∧ nameless v = true) := by
  refine enter tt_ok Try.func12 (nt := 55) (cd := body Try.f12) rfl rfl rfl rfl ?_
  intro _
  refine call_pure [] (line_ok s dir hl) rfl rfl rfl ?_ ?_ ?_
  · (repeat' first | exact trivial | exact rfl | refine And.intro ?_ ?_)
  · (repeat' first | exact trivial | exact rfl | refine And.intro ?_ ?_)
  intro v hv _
  subst hv
  intro _; refine ⟨fun g => ?_, fun g => ?_⟩
  · intro _
    exact ⟨rfl, rfl⟩
  exfalso
  have g : (!decide (VA s ∧ (dir = 0 ∨ dir = 1))) = false := g
  rw [decide_eq_false hE] at g
  cases g
theorem mk_snoc (k : Nat) (f : Nat → Int) : mk (k + 1) f = mk k f ++ [f k] := by
  simp [mk, List.range_succ]
/-- the runs of an order, turned -/
def TP (s : List UInt8) (dir t : Int) (f : Nat → Nat) (i : Nat) : Bool := decide (lev (cc s) dir s.length (f i) ≥ t)
def TL (s : List UInt8) (dir t : Int) (f : Nat → Nat) : List Int := mk s.length fun i => (f (rv (TP s dir t f) s.length i) : Nat)
theorem take_le {n k : Nat} (f : Nat → Int) (h : k ≤ n) : (mk k f).length ≤ n := by rw [mk_len]; exact h
set_option maxHeartbeats 4000000 in
theorem turn_ok (s : List UInt8) (dir t : Int) (f : Nat → Nat) (hV : s.length ≤ 2000) (hf : ∀ i, i < s.length → f i < s.length) : SemF Try.prog 30 [.slc 0 1 0 (mk s.length fun i => (f i : Nat)).length, .slc 1 1 0 (LL s dir).length, .int .i64 t] ⟨2, 2, [(0, .arr [.int .i64] .rd (.ints (mk s.length fun i => (f i : Nat)))), (1, .arr [.int .i64] .rd (.ints (LL s dir)))]⟩ (fun v h' => v = .grw 2 (TL s dir t f).length ∧ h' = ⟨3, 2, [(2, .arr [.int .i64] .grow (.ints (TL s dir t f)))]⟩) := by
  have hO : (mk s.length fun i => (f i : Nat) : List Int).length = s.length := mk_len _ _
  have hL : (LL s dir).length = s.length := mk_len _ _
  refine SemF.ret ?_
  refine enter tt_ok Try.func30 (nt := 68) (cd := body Try.f30) rfl rfl rfl rfl ?_
  have hg : ∀ k, k < s.length → (mk s.length fun i => (f i : Nat) : List Int).getD (0 + (k : Int).toNat) 0 = (f k : Nat) := fun k hk => by
    rw [show 0 + (k : Int).toNat = k by omega]; exact gt_mk (fun i => (f i : Nat)) hk
  have hv : ∀ k, k < s.length → (LL s dir).getD (0 + ((mk s.length fun i => (f i : Nat) : List Int).getD (0 + (k : Int).toNat) 0).toNat) 0 = lev (cc s) dir s.length (f k) := fun k hk => by
    rw [hg k hk, show 0 + ((f k : Nat) : Int).toNat = f k by omega]; exact gt_mk _ (hf k hk)
  intro _
  refine loop2 tt_ok [8, 7] [2] 3 (fun i : { i : Nat // i ≤ s.length ∧ (i < s.length → TP s dir t f i = true → i = 0 ∨ TP s dir t f (i - 1) = false) } => [(8, .int .i64 (i.1 : Nat)), (7, .grw 2 i.1)]) (fun i => [(2, .arr [.int .i64] .grow (.ints (mk i.1 fun i => (f (rv (TP s dir t f) s.length i) : Nat))))]) (fun i => s.length - i.1) ⟨0, by omega, fun _ _ => .inl rfl⟩ ?_
  intro _
  refine ⟨⟨th [(2, none)] 3, rfl, rfl, rfl, rfl, rfl, rfl, ?_, ?_⟩, ?_⟩
  · (repeat' first | exact trivial | exact rfl | refine And.intro ?_ ?_)
  · (repeat' first | exact trivial | exact rfl | refine And.intro ?_ ?_)
  intro ⟨i, hi, hlo⟩
  intro _; refine ⟨fun g => ?_, fun g => ?_⟩
  rotate_left
  · have hil := of_decide_eq_false (show decide ((i : Int) < ((mk s.length fun i => (f i : Nat) : List Int).length : Int)) = false from g)
    have hii : i = s.length := by omega
    subst hii
    intro _
    refine ⟨[(2, some 2)], .grw 2 (TL s dir t f).length, ⟨3, 2, [(2, .arr [.int .i64] .grow (.ints (TL s dir t f)))]⟩, rfl, rfl, rfl, rfl, ?_, ?_, ⟨rfl, rfl⟩⟩
    · (repeat' first | exact trivial | exact rfl | refine And.intro ?_ ?_)
      all_goals (exact mk_len _ _)
    · (repeat' first | exact trivial | exact rfl | refine And.intro ?_ ?_)
  have hil := of_decide_eq_true (show decide ((i : Int) < ((mk s.length fun i => (f i : Nat) : List Int).length : Int)) = true from g)
  have his : i < s.length := by omega
  intro _; refine ⟨show 0 ≤ (i : Int) ∧ (i : Int) < ((mk s.length fun i => (f i : Nat) : List Int).length : Int) by omega, ?_⟩
  intro _; refine ⟨show 0 + (i : Int).toNat < (mk s.length fun i => (f i : Nat) : List Int).length by omega, ?_⟩
  intro _; refine ⟨show 0 ≤ (mk s.length fun i => (f i : Nat) : List Int).getD (0 + (i : Int).toNat) 0 ∧ (mk s.length fun i => (f i : Nat) : List Int).getD (0 + (i : Int).toNat) 0 < ((LL s dir).length : Int) by rw [hg i his]; have := hf i his; omega, ?_⟩
  intro _; refine ⟨show 0 + ((mk s.length fun i => (f i : Nat) : List Int).getD (0 + (i : Int).toNat) 0).toNat < (LL s dir).length by rw [hg i his]; have := hf i his; omega, ?_⟩
  intro _; refine ⟨fun g => ?_, fun g => ?_⟩
  · have g := of_decide_eq_true (show decide ((LL s dir).getD (0 + ((mk s.length fun i => (f i : Nat) : List Int).getD (0 + (i : Int).toNat) 0).toNat) 0 < t) = true from g)
    rw [hv i his] at g
    have gp : TP s dir t f i = false := decide_eq_false (by omega)
    intro _; refine ⟨show 0 ≤ (i : Int) ∧ (i : Int) < ((mk s.length fun i => (f i : Nat) : List Int).length : Int) by omega, ?_⟩
    intro _; refine ⟨show 0 + (i : Int).toNat < (mk s.length fun i => (f i : Nat) : List Int).length by omega, ?_⟩
    intro _; refine ⟨rfl, ?_⟩
    intro _; refine ⟨fun g3 => by simp at g3, fun _ => ?_⟩
    refine ⟨⟨(mk_len _ _).symm, show i + 1 ≤ 4611686018427387904 by omega, show (i + 1) * 8 ≤ 140737488355328 by omega⟩, ?_⟩
    refine ⟨⟨i + 1, by omega, fun _ _ => .inr gp⟩, by simp only []; omega, th [(2, some 4)] 3, rfl, rfl, rfl, rfl, rfl, rfl, ?_, ?_⟩
    · (repeat' first | exact trivial | exact rfl | refine And.intro ?_ ?_)
      exact (wrap_nat i (by omega)).symm
    · (repeat' first | exact trivial | exact rfl | refine And.intro ?_ ?_)
      rw [mk_snoc, rv_out gp]
      show mk i _ ++ [((f i : Nat) : Int)] = mk i _ ++ [(mk s.length fun i => (f i : Nat) : List Int).getD (0 + (i : Int).toNat) 0]
      rw [hg i his]
  have g := of_decide_eq_false (show decide ((LL s dir).getD (0 + ((mk s.length fun i => (f i : Nat) : List Int).getD (0 + (i : Int).toNat) 0).toNat) 0 < t) = false from g)
  rw [hv i his] at g
  have gp : TP s dir t f i = true := decide_eq_true (by omega)
  intro _
  refine loop2 tt_ok [9] [] 3 (fun q : { q : Nat // i ≤ q ∧ q ≤ s.length ∧ ∀ x, i ≤ x → x < q → TP s dir t f x = true } => [(9, .int .i64 (q.1 : Nat))]) (fun _ => []) (fun q => s.length - q.1) ⟨i, Nat.le_refl _, by omega, fun x h1 h2 => by omega⟩ ?_
  intro _
  refine ⟨⟨th [] 3, rfl, rfl, rfl, rfl, rfl, rfl, ?_, ?_⟩, ?_⟩
  · (repeat' first | exact trivial | exact rfl | refine And.intro ?_ ?_)
  · (repeat' first | exact trivial | exact rfl | refine And.intro ?_ ?_)
  intro ⟨k, h1, h2, hrun⟩
  intro _; refine ⟨fun g => ?_, fun g => ?_⟩
  · have hal := of_decide_eq_true (show decide ((k : Int) < ((mk s.length fun i => (f i : Nat) : List Int).length : Int)) = true from g)
    have hks : k < s.length := by omega
    intro _; refine ⟨show 0 ≤ (k : Int) ∧ (k : Int) < ((mk s.length fun i => (f i : Nat) : List Int).length : Int) by omega, ?_⟩
    intro _; refine ⟨show 0 + (k : Int).toNat < (mk s.length fun i => (f i : Nat) : List Int).length by omega, ?_⟩
    intro _; refine ⟨show 0 ≤ (mk s.length fun i => (f i : Nat) : List Int).getD (0 + (k : Int).toNat) 0 ∧ (mk s.length fun i => (f i : Nat) : List Int).getD (0 + (k : Int).toNat) 0 < ((LL s dir).length : Int) by rw [hg k hks]; have := hf k hks; omega, ?_⟩
    intro _; refine ⟨show 0 + ((mk s.length fun i => (f i : Nat) : List Int).getD (0 + (k : Int).toNat) 0).toNat < (LL s dir).length by rw [hg k hks]; have := hf k hks; omega, ?_⟩
    intro _; refine ⟨fun g => ?_, fun g => ?_⟩
    · have g := of_decide_eq_true (show decide ((LL s dir).getD (0 + ((mk s.length fun i => (f i : Nat) : List Int).getD (0 + (k : Int).toNat) 0).toNat) 0 ≥ t) = true from g)
      rw [hv k hks] at g
      have gk : TP s dir t f k = true := decide_eq_true g
      refine ⟨⟨k + 1, by omega, by omega, fun x h3 h4 => ?_⟩, by simp only []; omega, th [] 3, rfl, rfl, rfl, rfl, rfl, rfl, ?_, ?_⟩
      · by_cases e : x = k
        · rw [e]; exact gk
        · exact hrun x h3 (by omega)
      · (repeat' first | exact trivial | exact rfl | refine And.intro ?_ ?_)
        exact (wrap_nat k (by omega)).symm
      · (repeat' first | exact trivial | exact rfl | refine And.intro ?_ ?_)
    have g := of_decide_eq_false (show decide ((LL s dir).getD (0 + ((mk s.length fun i => (f i : Nat) : List Int).getD (0 + (k : Int).toNat) 0).toNat) 0 ≥ t) = false from g)
    rw [hv k hks] at g
    have gk : TP s dir t f k = false := decide_eq_false g
    have hR : Run (TP s dir t f) s.length i k := ⟨h1, h2, hrun, hlo his gp, .inr gk⟩
    have hik : i < k := by
      rcases Nat.lt_or_ge i k with h | h
      · exact h
      · have e : k = i := by omega
        subst e
        rcases hR.hi with h | h
        · omega
        · rw [gp] at h; cases h
    intro _
    refine loop2 tt_ok [10, 7] [2] 3 (fun j : { j : Nat // j ≤ k - i } => [(10, .int .i64 ((k : Int) - 1 - (j.1 : Nat))), (7, .grw 2 (i + j.1))]) (fun j => [(2, .arr [.int .i64] .grow (.ints (mk (i + j.1) fun i => (f (rv (TP s dir t f) s.length i) : Nat))))]) (fun j => k - i - j.1) ⟨0, by omega⟩ ?_
    intro _
    refine ⟨⟨th [] 3, rfl, rfl, rfl, rfl, rfl, rfl, ?_, ?_⟩, ?_⟩
    · (repeat' first | exact trivial | exact rfl | refine And.intro ?_ ?_)
      all_goals (show (k : Int) - 1 - ((0 : Nat) : Int) = IntKind.i64.wrap ((k : Int) - 1); rw [wrapS _ ⟨by omega, by omega⟩]; omega)
    · (repeat' first | exact trivial | exact rfl | refine And.intro ?_ ?_)
    intro ⟨j, hj⟩
    intro _; refine ⟨fun g => ?_, fun g => ?_⟩
    rotate_left
    · have hjl := of_decide_eq_false (show decide ((k : Int) - 1 - (j : Nat) ≥ (i : Int)) = false from g)
      have hjk : i + j = k := by omega
      refine ⟨⟨k, h2, fun hk' hp => by
        rcases hR.hi with h | h
        · omega
        · rw [hp] at h; cases h⟩, by simp only []; omega, th [] 3, rfl, rfl, rfl, rfl, rfl, rfl, ?_, ?_⟩
      · (repeat' first | exact trivial | exact rfl | refine And.intro ?_ ?_)
        · show (k : Int) = IntKind.i64.wrap (IntKind.i64.wrap ((k : Int) - 1) + 1)
          rw [wrapS ((k : Int) - 1) ⟨by omega, by omega⟩, wrapS _ ⟨by omega, by omega⟩]; omega
        all_goals (show k = i + j; omega)
      · (repeat' first | exact trivial | exact rfl | refine And.intro ?_ ?_)
        all_goals (show mk k _ = mk (i + j) _; rw [hjk])
    have hjl := of_decide_eq_true (show decide ((k : Int) - 1 - (j : Nat) ≥ (i : Int)) = true from g)
    have hjs : k - 1 - j < s.length := by omega
    have ej : (k : Int) - 1 - (j : Nat) = ((k - 1 - j : Nat) : Int) := by omega
    intro _; refine ⟨show 0 ≤ (k : Int) - 1 - (j : Nat) ∧ (k : Int) - 1 - (j : Nat) < ((mk s.length fun i => (f i : Nat) : List Int).length : Int) by omega, ?_⟩
    intro _; refine ⟨show 0 + ((k : Int) - 1 - (j : Nat)).toNat < (mk s.length fun i => (f i : Nat) : List Int).length by omega, ?_⟩
    intro _; refine ⟨rfl, ?_⟩
    intro _; refine ⟨fun g3 => by simp at g3, fun _ => ?_⟩
    refine ⟨⟨(mk_len _ _).symm, show i + j + 1 ≤ 4611686018427387904 by omega, show (i + j + 1) * 8 ≤ 140737488355328 by omega⟩, ?_⟩
    refine ⟨⟨j + 1, by omega⟩, by simp only []; omega, th [(2, some 4)] 3, rfl, rfl, rfl, rfl, rfl, rfl, ?_, ?_⟩
    · (repeat' first | exact trivial | exact rfl | refine And.intro ?_ ?_)
      all_goals (show (k : Int) - 1 - ((j + 1 : Nat) : Int) = IntKind.i64.wrap ((k : Int) - 1 - (j : Nat) - 1); rw [wrapS _ ⟨by omega, by omega⟩]; omega)
    · (repeat' first | exact trivial | exact rfl | refine And.intro ?_ ?_)
      all_goals (
        show mk (i + (j + 1)) _ = mk (i + j) _ ++ [(mk s.length fun i => (f i : Nat) : List Int).getD (0 + ((k : Int) - 1 - (j : Nat)).toNat) 0]
        rw [ej, hg _ hjs, ← Nat.add_assoc, mk_snoc, rv_run hR (by omega) (by omega), show i + k - 1 - (i + j) = k - 1 - j by omega])
  have hal := of_decide_eq_false (show decide ((k : Int) < ((mk s.length fun i => (f i : Nat) : List Int).length : Int)) = false from g)
  have hkn : k = s.length := by omega
  have hR : Run (TP s dir t f) s.length i k := ⟨h1, h2, hrun, hlo his gp, .inl hkn⟩
  have hik : i < k := by
    rcases Nat.lt_or_ge i k with h | h
    · exact h
    · have e : k = i := by omega
      subst e
      rcases hR.hi with h | h
      · omega
      · rw [gp] at h; cases h
  intro _
  refine loop2 tt_ok [10, 7] [2] 3 (fun j : { j : Nat // j ≤ k - i } => [(10, .int .i64 ((k : Int) - 1 - (j.1 : Nat))), (7, .grw 2 (i + j.1))]) (fun j => [(2, .arr [.int .i64] .grow (.ints (mk (i + j.1) fun i => (f (rv (TP s dir t f) s.length i) : Nat))))]) (fun j => k - i - j.1) ⟨0, by omega⟩ ?_
  intro _
  refine ⟨⟨th [] 3, rfl, rfl, rfl, rfl, rfl, rfl, ?_, ?_⟩, ?_⟩
  · (repeat' first | exact trivial | exact rfl | refine And.intro ?_ ?_)
    all_goals (show (k : Int) - 1 - ((0 : Nat) : Int) = IntKind.i64.wrap ((k : Int) - 1); rw [wrapS _ ⟨by omega, by omega⟩]; omega)
  · (repeat' first | exact trivial | exact rfl | refine And.intro ?_ ?_)
  intro ⟨j, hj⟩
  intro _; refine ⟨fun g => ?_, fun g => ?_⟩
  rotate_left
  · have hjl := of_decide_eq_false (show decide ((k : Int) - 1 - (j : Nat) ≥ (i : Int)) = false from g)
    have hjk : i + j = k := by omega
    refine ⟨⟨k, h2, fun hk' hp => by
      rcases hR.hi with h | h
      · omega
      · rw [hp] at h; cases h⟩, by simp only []; omega, th [] 3, rfl, rfl, rfl, rfl, rfl, rfl, ?_, ?_⟩
    · (repeat' first | exact trivial | exact rfl | refine And.intro ?_ ?_)
      · show (k : Int) = IntKind.i64.wrap (IntKind.i64.wrap ((k : Int) - 1) + 1)
        rw [wrapS ((k : Int) - 1) ⟨by omega, by omega⟩, wrapS _ ⟨by omega, by omega⟩]; omega
      all_goals (show k = i + j; omega)
    · (repeat' first | exact trivial | exact rfl | refine And.intro ?_ ?_)
      all_goals (show mk k _ = mk (i + j) _; rw [hjk])
  have hjl := of_decide_eq_true (show decide ((k : Int) - 1 - (j : Nat) ≥ (i : Int)) = true from g)
  have hjs : k - 1 - j < s.length := by omega
  have ej : (k : Int) - 1 - (j : Nat) = ((k - 1 - j : Nat) : Int) := by omega
  intro _; refine ⟨show 0 ≤ (k : Int) - 1 - (j : Nat) ∧ (k : Int) - 1 - (j : Nat) < ((mk s.length fun i => (f i : Nat) : List Int).length : Int) by omega, ?_⟩
  intro _; refine ⟨show 0 + ((k : Int) - 1 - (j : Nat)).toNat < (mk s.length fun i => (f i : Nat) : List Int).length by omega, ?_⟩
  intro _; refine ⟨rfl, ?_⟩
  intro _; refine ⟨fun g3 => by simp at g3, fun _ => ?_⟩
  refine ⟨⟨(mk_len _ _).symm, show i + j + 1 ≤ 4611686018427387904 by omega, show (i + j + 1) * 8 ≤ 140737488355328 by omega⟩, ?_⟩
  refine ⟨⟨j + 1, by omega⟩, by simp only []; omega, th [(2, some 4)] 3, rfl, rfl, rfl, rfl, rfl, rfl, ?_, ?_⟩
  · (repeat' first | exact trivial | exact rfl | refine And.intro ?_ ?_)
    all_goals (show (k : Int) - 1 - ((j + 1 : Nat) : Int) = IntKind.i64.wrap ((k : Int) - 1 - (j : Nat) - 1); rw [wrapS _ ⟨by omega, by omega⟩]; omega)
  · (repeat' first | exact trivial | exact rfl | refine And.intro ?_ ?_)
    all_goals (
      show mk (i + (j + 1)) _ = mk (i + j) _ ++ [(mk s.length fun i => (f i : Nat) : List Int).getD (0 + ((k : Int) - 1 - (j : Nat)).toNat) 0]
      rw [ej, hg _ hjs, ← Nat.add_assoc, mk_snoc, rv_run hR (by omega) (by omega), show i + k - 1 - (i + j) = k - 1 - j by omega])
theorem TL_1 (s : List UInt8) (dir : Int) : TL s dir 2 (fun i => i) = mk s.length fun i => (rv (PL (cc s) dir s.length 2) s.length i : Nat) := rfl
theorem TL_2 (s : List UInt8) (dir : Int) : TL s dir 1 (fun i => rv (PL (cc s) dir s.length 2) s.length i) = OL s dir := by
  refine mk_of (mk_len _ _) fun k hk => ?_
  unfold TL
  rw [gt_mk _ hk]
  have e : rv (TP s dir 1 fun i => rv (PL (cc s) dir s.length 2) s.length i) s.length k = rv (PL (cc s) dir s.length 1) s.length k := rv_congr hk fun i hi => PL_rv hi
  rw [e]
  rfl
set_option maxHeartbeats 4000000 in
theorem rOrder_ok (s : List UInt8) (dir : Int) (hV : VA s) (hd : dir = 0 ∨ dir = 1) : SemF Try.prog 15 [.str s, .int .i64 dir] ⟨0, 0, []⟩ (fun v h' => v = .tup [.grw 0 (OL s dir).length, .int .i64 0] ∧ h' = ⟨1, 0, [(0, .arr [.int .i64] .grow (.ints (OL s dir)))]⟩) := by
  have hl := hV.1
  have hLL : (LL s dir).length = s.length := mk_len _ _
  refine SemF.ret ?_
  refine enter tt_ok Try.func15 (nt := 34) (cd := body Try.f15) rfl rfl rfl rfl ?_
  intro _
  refine call_new [] (rLevels_ok s dir hV hd) rfl rfl rfl rfl ?_ ?_ ?_
  · (repeat' first | exact trivial | exact rfl | refine And.intro ?_ ?_)
  · (repeat' first | exact trivial | exact rfl | refine And.intro ?_ ?_)
  intro v h' hv
  obtain ⟨rfl, rfl⟩ := hv
  refine ⟨[(0, some 0)], 1, [(0, .arr [.int .i64] .own (.ints (LL s dir)))], .tup [.grw 0 (LL s dir).length, .int .i64 0], rfl, rfl, rfl, rfl, rfl, ?_, ?_, ?_⟩
  · (repeat' first | exact trivial | exact rfl | refine And.intro ?_ ?_)
  · (repeat' first | exact trivial | exact rfl | refine And.intro ?_ ?_)
  intro _; refine ⟨fun g => absurd (show ((0 : Int) != 0) = true from g) (by decide), fun _ => ?_⟩
  intro _
  refine loop2 tt_ok [9, 8] [1] 2 (fun k : { k : Nat // k ≤ s.length } => [(9, .int .i64 (k.1 : Nat)), (8, .grw 1 k.1)]) (fun k => [(1, .arr [.int .i64] .grow (.ints (mk k.1 fun i => (i : Nat))))]) (fun k => s.length - k.1) ⟨0, by omega⟩ ?_
  intro _
  refine ⟨⟨th [(1, none)] 2, rfl, rfl, rfl, rfl, rfl, rfl, ?_, ?_⟩, ?_⟩
  · (repeat' first | exact trivial | exact rfl | refine And.intro ?_ ?_)
  · (repeat' first | exact trivial | exact rfl | refine And.intro ?_ ?_)
  intro ⟨k, hk⟩
  intro _; refine ⟨fun g => ?_, fun g => ?_⟩
  · have hkl := of_decide_eq_true (show decide ((k : Int) < (s.length : Int)) = true from g)
    intro _; refine ⟨rfl, ?_⟩
    intro _; refine ⟨fun g3 => by simp at g3, fun _ => ?_⟩
    refine ⟨⟨(mk_len _ _).symm, show k + 1 ≤ 4611686018427387904 by omega, show (k + 1) * 8 ≤ 140737488355328 by omega⟩, ?_⟩
    refine ⟨⟨k + 1, by omega⟩, by simp only []; omega, th [(1, some 3)] 2, rfl, rfl, rfl, rfl, rfl, rfl, ?_, ?_⟩
    · (repeat' first | exact trivial | exact rfl | refine And.intro ?_ ?_)
      exact (wrap_nat k (by omega)).symm
    · (repeat' first | exact trivial | exact rfl | refine And.intro ?_ ?_)
      all_goals (rw [mk_snoc]; rfl)
  have hkl := of_decide_eq_false (show decide ((k : Int) < (s.length : Int)) = false from g)
  have hkl : k = s.length := by omega
  subst hkl
  have hM : (mk s.length fun i => (i : Nat) : List Int).length = s.length := mk_len _ _
  have hT1 : (TL s dir 2 (fun i => i)).length = s.length := mk_len _ _
  have hT2 : (OL s dir).length = s.length := mk_len _ _
  have K1 := turn_ok s dir 2 (fun i => i) hl (fun i hi => hi)
  have K2 := turn_ok s dir 1 (fun i => rv (PL (cc s) dir s.length 2) s.length i) hl (fun i hi => (rv_in hi).1)
  rw [← TL_1, TL_2] at K2
  rw [hM] at K1
  intro _
  refine call_new [(0, some 1), (1, some 0)] (K1) rfl rfl rfl rfl ?_ ?_ ?_
  · (repeat' first | exact trivial | exact rfl | refine And.intro ?_ ?_)
  · (repeat' first | exact trivial | exact rfl | refine And.intro ?_ ?_)
  intro v h' hv
  obtain ⟨rfl, rfl⟩ := hv
  refine ⟨[(2, some 2)], 3, [(2, .arr [.int .i64] .grow (.ints (TL s dir 2 (fun i => i))))], .grw 2 (TL s dir 2 (fun i => i)).length, rfl, rfl, rfl, rfl, rfl, ?_, ?_, ?_⟩
  · (repeat' first | exact trivial | exact rfl | refine And.intro ?_ ?_)
  · (repeat' first | exact trivial | exact rfl | refine And.intro ?_ ?_)
  intro _
  refine call_new [(0, some 2), (1, some 0)] (K2) rfl rfl rfl rfl ?_ ?_ ?_
  · (repeat' first | exact trivial | exact rfl | refine And.intro ?_ ?_)
  · (repeat' first | exact trivial | exact rfl | refine And.intro ?_ ?_)
  intro v h' hv
  obtain ⟨rfl, rfl⟩ := hv
  refine ⟨[(3, some 2)], 4, [(3, .arr [.int .i64] .grow (.ints (OL s dir)))], .grw 3 (OL s dir).length, rfl, rfl, rfl, rfl, rfl, ?_, ?_, ?_⟩
  · (repeat' first | exact trivial | exact rfl | refine And.intro ?_ ?_)
  · (repeat' first | exact trivial | exact rfl | refine And.intro ?_ ?_)
  intro _
  refine ⟨[(0, some 3)], .tup [.grw 0 (OL s dir).length, .int .i64 0], ⟨1, 0, [(0, .arr [.int .i64] .grow (.ints (OL s dir)))]⟩, rfl, rfl, rfl, rfl, ?_, ?_, ⟨rfl, rfl⟩⟩
  · (repeat' first | exact trivial | exact rfl | refine And.intro ?_ ?_)
  · (repeat' first | exact trivial | exact rfl | refine And.intro ?_ ?_)
theorem rOrder_err (s : List UInt8) (dir : Int) (hl : s.length ≤ 9223372036854775807) (hE : ¬ (VA s ∧ (dir = 0 ∨ dir = 1))) : SemF Try.prog 15 [.str s, .int .i64 dir] ⟨0, 0, []⟩ (fun v _ => v = .tup [.nils, .int .i64 1] ∧ nameless v = true) := by
  refine enter tt_ok Try.func15 (nt := 34) (cd := body Try.f15) rfl rfl rfl rfl ?_
  intro _
  refine call_pure [] (rLevels_err s dir hl hE) rfl rfl rfl ?_ ?_ ?_
  · (repeat' first | exact trivial | exact rfl | refine And.intro ?_ ?_)
  · (repeat' first | exact trivial | exact rfl | refine And.intro ?_ ?_)
  intro v hv _
  subst hv
  intro _; refine ⟨fun _ => ?_, fun g => absurd (show ((1 : Int) != 0) = false from g) (by decide)⟩
  intro _
  exact ⟨rfl, rfl⟩
set_option maxHeartbeats 4000000 in
theorem rVisual_ok (s : List UInt8) (dir : Int) (hV : VA s) (hd : dir = 0 ∨ dir = 1) : SemF Try.prog 17 [.str s, .int .i64 dir] ⟨0, 0, []⟩ (fun v _ => v = .tup [.str (VS s dir), .int .i64 0] ∧ nameless v = true) := by
  have hl := hV.1
  have hOL : (OL s dir).length = s.length := mk_len _ _
  refine enter tt_ok Try.func17 (nt := 36) (cd := body Try.f17) rfl rfl rfl rfl ?_
  intro _
  refine call_new [] (rOrder_ok s dir hV hd) rfl rfl rfl rfl ?_ ?_ ?_
  · (repeat' first | exact trivial | exact rfl | refine And.intro ?_ ?_)
  · (repeat' first | exact trivial | exact rfl | refine And.intro ?_ ?_)
  intro v h' hv
  obtain ⟨rfl, rfl⟩ := hv
  refine ⟨[(0, some 0)], 1, [(0, .arr [.int .i64] .grow (.ints (OL s dir)))], .tup [.grw 0 (OL s dir).length, .int .i64 0], rfl, rfl, rfl, rfl, rfl, ?_, ?_, ?_⟩
  · (repeat' first | exact trivial | exact rfl | refine And.intro ?_ ?_)
  · (repeat' first | exact trivial | exact rfl | refine And.intro ?_ ?_)
  intro _; refine ⟨fun g => absurd (show ((0 : Int) != 0) = true from g) (by decide), fun _ => ?_⟩
  intro _
  refine loop2 tt_ok [9, 8] [1] 2 (fun k : { k : Nat // k ≤ s.length } => [(9, .int .i64 (k.1 : Nat)), (8, .grw 1 k.1)]) (fun k => [(1, .arr [.int .u8] .grow (.ints (mk k.1 fun i => by' s (od (cc s) dir s.length i))))]) (fun k => s.length - k.1) ⟨0, by omega⟩ ?_
  intro _
  refine ⟨⟨th [(1, none)] 2, rfl, rfl, rfl, rfl, rfl, rfl, ?_, ?_⟩, ?_⟩
  · (repeat' first | exact trivial | exact rfl | refine And.intro ?_ ?_)
  · (repeat' first | exact trivial | exact rfl | refine And.intro ?_ ?_)
  intro ⟨k, hk⟩
  intro _; refine ⟨fun g => ?_, fun g => ?_⟩
  · have hkl := of_decide_eq_true (show decide ((k : Int) < ((OL s dir).length : Int)) = true from g)
    have hks : k < s.length := by omega
    have eO : (OL s dir).getD (k : Int).toNat 0 = (od (cc s) dir s.length k : Nat) := gt_mk _ hks
    have hol := od_lt (c := cc s) (dir := dir) hks
    intro _; refine ⟨show 0 ≤ (k : Int) ∧ (k : Int) < ((OL s dir).length : Int) by omega, ?_⟩
    intro _; refine ⟨show (k : Int).toNat < (OL s dir).length by omega, ?_⟩
    intro _; refine ⟨show 0 ≤ (OL s dir).getD (k : Int).toNat 0 ∧ (OL s dir).getD (k : Int).toNat 0 < (s.length : Int) by rw [eO]; omega, ?_⟩
    intro _; refine ⟨rfl, ?_⟩
    intro _; refine ⟨fun g3 => by simp at g3, fun _ => ?_⟩
    refine ⟨⟨(mk_len _ _).symm, show k + 1 ≤ 4611686018427387904 by omega, show (k + 1) * 1 ≤ 140737488355328 by omega⟩, ?_⟩
    refine ⟨⟨k + 1, by omega⟩, by simp only []; omega, th [(1, some 3)] 2, rfl, rfl, rfl, rfl, rfl, rfl, ?_, ?_⟩
    · (repeat' first | exact trivial | exact rfl | refine And.intro ?_ ?_)
      exact (wrap_nat k (by omega)).symm
    · (repeat' first | exact trivial | exact rfl | refine And.intro ?_ ?_)
      all_goals (
        show mk (k + 1) _ = mk k _ ++ [(((s.getD ((OL s dir).getD (k : Int).toNat 0).toNat 0).toNat : Nat) : Int)]
        rw [mk_snoc, eO]
        rfl)
  have hkl := of_decide_eq_false (show decide ((k : Int) < ((OL s dir).length : Int)) = false from g)
  have hkl : k = s.length := by omega
  subst hkl
  intro _; refine ⟨(mk_len _ _).symm, ?_⟩
  intro _
  refine ⟨?_, rfl⟩
  show V.tup [.str ((mk s.length (fun i => by' s (od (cc s) dir s.length i))).map fun n => UInt8.ofNat n.toNat), .int .i64 0] = _
  rw [str_mk]
  rfl
theorem rVisual_err (s : List UInt8) (dir : Int) (hl : s.length ≤ 9223372036854775807) (hE : ¬ (VA s ∧ (dir = 0 ∨ dir = 1))) : SemF Try.prog 17 [.str s, .int .i64 dir] ⟨0, 0, []⟩ (fun v _ => v = .tup [.str [], .int .i64 1] ∧ nameless v = true) := by
  refine enter tt_ok Try.func17 (nt := 36) (cd := body Try.f17) rfl rfl rfl rfl ?_
  intro _
  refine call_pure [] (rOrder_err s dir hl hE) rfl rfl rfl ?_ ?_ ?_
  · (repeat' first | exact trivial | exact rfl | refine And.intro ?_ ?_)
  · (repeat' first | exact trivial | exact rfl | refine And.intro ?_ ?_)
  intro v hv _
  subst hv
  intro _; refine ⟨fun _ => ?_, fun g => absurd (show ((1 : Int) != 0) = false from g) (by decide)⟩
  intro _
  exact ⟨rfl, rfl⟩
/-- SameInts -/
theorem same_all (a : List Int) (ha : a.length ≤ 2000) : SemF Try.prog 13 [.slc 0 1 0 a.length, .slc 1 1 0 a.length] ⟨2, 2, [(0, .arr [.int .i64] .rd (.ints a)), (1, .arr [.int .i64] .rd (.ints a))]⟩
    (fun v _ => v = .bool true ∧ nameless v = true) := by
  refine enter tt_ok Try.func13 (nt := 26) (cd := body Try.f13) rfl rfl rfl rfl ?_
  intro _; refine ⟨fun g => ?_, fun g => ?_⟩
  · exfalso
    have g : ((a.length : Int) != (a.length : Int)) = true := g
    simp at g
  intro _
  refine loop2 tt_ok [5] [] 2 (fun k : { k : Nat // k ≤ a.length } => [(5, .int .i64 (k.1 : Nat))]) (fun _ => []) (fun k => a.length - k.1) ⟨0, by omega⟩ ?_
  intro _
  refine ⟨⟨th [] 2, rfl, rfl, rfl, rfl, rfl, rfl, ?_, ?_⟩, ?_⟩
  · (repeat' first | exact trivial | exact rfl | refine And.intro ?_ ?_)
  · (repeat' first | exact trivial | exact rfl | refine And.intro ?_ ?_)
  intro ⟨k, hk⟩
  intro _; refine ⟨fun g => ?_, fun g => ?_⟩
  · have hkl := of_decide_eq_true (show decide ((k : Int) < (a.length : Int)) = true from g)
    have hkb : 0 ≤ (k : Int) ∧ (k : Int) < (a.length : Int) := by omega
    have hkt : 0 + (k : Int).toNat < a.length := by omega
    intro _; refine ⟨hkb, ?_⟩
    intro _; refine ⟨hkt, ?_⟩
    intro _; refine ⟨hkb, ?_⟩
    intro _; refine ⟨hkt, ?_⟩
    intro _; refine ⟨by kernel_rfl, ?_⟩
    intro _; refine ⟨fun g => ?_, fun g => ?_⟩
    · exfalso
      have g : (a.getD (0 + (k : Int).toNat) 0 != a.getD (0 + (k : Int).toNat) 0) = true := g
      simp at g
    refine ⟨⟨k + 1, by omega⟩, by simp only []; omega, th [] 2, rfl, rfl, rfl, rfl, rfl, rfl, ?_, ?_⟩
    · (repeat' first | exact trivial | exact rfl | refine And.intro ?_ ?_)
      exact (wrap_nat k (by omega)).symm
    · (repeat' first | exact trivial | exact rfl | refine And.intro ?_ ?_)
  intro _
  exact ⟨rfl, rfl⟩
theorem same_nil : SemF Try.prog 13 [.nils, .nils] ⟨0, 0, []⟩ (fun v _ => v = .bool true ∧ nameless v = true) := by
  refine enter tt_ok Try.func13 (nt := 26) (cd := body Try.f13) rfl rfl rfl rfl ?_
  intro _; refine ⟨fun g => absurd (show ((0 : Int) != 0) = true from g) (by decide), fun _ => ?_⟩
  intro _
  refine loop_step tt_ok ?_
  intro _; refine ⟨fun g => absurd (show decide ((0 : Int) < 0) = true from g) (by decide), fun _ => ?_⟩
  intro _
  exact ⟨rfl, rfl⟩
set_option maxHeartbeats 4000000 in
theorem law3 (s : List UInt8) (dir : Int) (hl : s.length ≤ 9223372036854775807) : SemF Try.prog 3 [.str s, .int .i64 dir] ⟨0, 0, []⟩ (fun v _ => IsTrue v) := by
  refine enter tt_ok Try.func3 (nt := 91) (cd := body Try.f3) rfl rfl rfl rfl ?_
  intro _
  refine head_ok rfl Try.func10 (cd := body Try.f10) rfl ?_
  intro _; refine ⟨fun g => ?_, fun g => ?_⟩
  · intro _; refine ⟨fun g => ?_, fun g => ?_⟩
    · intro _
      rfl
    have h2 := of_decide_eq_false (show decide ((s.length : Int) ≤ 2000) = false from g)
    have hE : ¬ (VA s ∧ (dir = 0 ∨ dir = 1)) := fun h => by have := h.1.1; omega
    intro _
    refine call_pure [] (Levels_err s dir hl hE) rfl rfl rfl ?_ ?_ ?_
    · (repeat' first | exact trivial | exact rfl | refine And.intro ?_ ?_)
    · (repeat' first | exact trivial | exact rfl | refine And.intro ?_ ?_)
    intro v hv _
    subst hv
    intro _
    refine call_pure [] (rLevels_err s dir hl hE) rfl rfl rfl ?_ ?_ ?_
    · (repeat' first | exact trivial | exact rfl | refine And.intro ?_ ?_)
    · (repeat' first | exact trivial | exact rfl | refine And.intro ?_ ?_)
    intro v hv _
    subst hv
    intro _
    refine call_pure [] (same_nil) rfl rfl rfl ?_ ?_ ?_
    · (repeat' first | exact trivial | exact rfl | refine And.intro ?_ ?_)
    · (repeat' first | exact trivial | exact rfl | refine And.intro ?_ ?_)
    intro v hv _
    subst hv
    intro _
    refine call_pure [] (Order_err s dir hl hE) rfl rfl rfl ?_ ?_ ?_
    · (repeat' first | exact trivial | exact rfl | refine And.intro ?_ ?_)
    · (repeat' first | exact trivial | exact rfl | refine And.intro ?_ ?_)
    intro v hv _
    subst hv
    intro _
    refine call_pure [] (rOrder_err s dir hl hE) rfl rfl rfl ?_ ?_ ?_
    · (repeat' first | exact trivial | exact rfl | refine And.intro ?_ ?_)
    · (repeat' first | exact trivial | exact rfl | refine And.intro ?_ ?_)
    intro v hv _
    subst hv
    intro _; refine ⟨fun _ => ?_, fun g => absurd g (by decide)⟩
    intro _
    refine call_pure [] (same_nil) rfl rfl rfl ?_ ?_ ?_
    · (repeat' first | exact trivial | exact rfl | refine And.intro ?_ ?_)
    · (repeat' first | exact trivial | exact rfl | refine And.intro ?_ ?_)
    intro v hv _
    subst hv
    intro _
    refine call_pure [] (Visual_err s dir hl hE) rfl rfl rfl ?_ ?_ ?_
    · (repeat' first | exact trivial | exact rfl | refine And.intro ?_ ?_)
    · (repeat' first | exact trivial | exact rfl | refine And.intro ?_ ?_)
    intro v hv _
    subst hv
    intro _
    refine call_pure [] (rVisual_err s dir hl hE) rfl rfl rfl ?_ ?_ ?_
    · (repeat' first | exact trivial | exact rfl | refine And.intro ?_ ?_)
    · (repeat' first | exact trivial | exact rfl | refine And.intro ?_ ?_)
    intro v hv _
    subst hv
    intro _; refine ⟨fun _ => ?_, fun g => absurd g (by decide)⟩
    intro _; refine ⟨fun _ => ?_, fun g => absurd g (by decide)⟩
    intro _
    rfl
  intro _
  by_cases hE : VA s ∧ (dir = 0 ∨ dir = 1)
  · skip
    have hl2 := hE.1.1
    have hLL : (LL s dir).length = s.length := mk_len _ _
    have hOL : (OL s dir).length = s.length := mk_len _ _
    refine call_new [] (Levels_ok s dir hE.1 hE.2) rfl rfl rfl rfl ?_ ?_ ?_
    · (repeat' first | exact trivial | exact rfl | refine And.intro ?_ ?_)
    · (repeat' first | exact trivial | exact rfl | refine And.intro ?_ ?_)
    intro v h' hv
    obtain ⟨rfl, rfl⟩ := hv
    refine ⟨[(0, some 0)], 1, [(0, .arr [.int .i64] .own (.ints (LL s dir)))], .tup [.grw 0 (LL s dir).length, .int .i64 0], rfl, rfl, rfl, rfl, rfl, ?_, ?_, ?_⟩
    · (repeat' first | exact trivial | exact rfl | refine And.intro ?_ ?_)
    · (repeat' first | exact trivial | exact rfl | refine And.intro ?_ ?_)
    intro _
    refine call_new [] (rLevels_ok s dir hE.1 hE.2) rfl rfl rfl rfl ?_ ?_ ?_
    · (repeat' first | exact trivial | exact rfl | refine And.intro ?_ ?_)
    · (repeat' first | exact trivial | exact rfl | refine And.intro ?_ ?_)
    intro v h' hv
    obtain ⟨rfl, rfl⟩ := hv
    refine ⟨[(1, some 0)], 2, [(1, .arr [.int .i64] .own (.ints (LL s dir)))], .tup [.grw 1 (LL s dir).length, .int .i64 0], rfl, rfl, rfl, rfl, rfl, ?_, ?_, ?_⟩
    · (repeat' first | exact trivial | exact rfl | refine And.intro ?_ ?_)
    · (repeat' first | exact trivial | exact rfl | refine And.intro ?_ ?_)
    intro _
    refine call_pure [(0, some 0), (1, some 1)] (same_all (LL s dir) (by omega)) rfl rfl rfl ?_ ?_ ?_
    · (repeat' first | exact trivial | exact rfl | refine And.intro ?_ ?_)
    · (repeat' first | exact trivial | exact rfl | refine And.intro ?_ ?_)
    intro v hv _
    subst hv
    intro _
    refine call_new [] (Order_ok s dir hE.1 hE.2) rfl rfl rfl rfl ?_ ?_ ?_
    · (repeat' first | exact trivial | exact rfl | refine And.intro ?_ ?_)
    · (repeat' first | exact trivial | exact rfl | refine And.intro ?_ ?_)
    intro v h' hv
    obtain ⟨rfl, rfl⟩ := hv
    refine ⟨[(2, some 0)], 3, [(2, .arr [.int .i64] .own (.ints (OL s dir)))], .tup [.grw 2 (OL s dir).length, .int .i64 0], rfl, rfl, rfl, rfl, rfl, ?_, ?_, ?_⟩
    · (repeat' first | exact trivial | exact rfl | refine And.intro ?_ ?_)
    · (repeat' first | exact trivial | exact rfl | refine And.intro ?_ ?_)
    intro _
    refine call_new [] (rOrder_ok s dir hE.1 hE.2) rfl rfl rfl rfl ?_ ?_ ?_
    · (repeat' first | exact trivial | exact rfl | refine And.intro ?_ ?_)
    · (repeat' first | exact trivial | exact rfl | refine And.intro ?_ ?_)
    intro v h' hv
    obtain ⟨rfl, rfl⟩ := hv
    refine ⟨[(3, some 0)], 4, [(3, .arr [.int .i64] .grow (.ints (OL s dir)))], .tup [.grw 3 (OL s dir).length, .int .i64 0], rfl, rfl, rfl, rfl, rfl, ?_, ?_, ?_⟩
    · (repeat' first | exact trivial | exact rfl | refine And.intro ?_ ?_)
    · (repeat' first | exact trivial | exact rfl | refine And.intro ?_ ?_)
    intro _; refine ⟨fun _ => ?_, fun g => absurd g (by decide)⟩
    intro _
    refine call_pure [(0, some 2), (1, some 3)] (same_all (OL s dir) (by omega)) rfl rfl rfl ?_ ?_ ?_
    · (repeat' first | exact trivial | exact rfl | refine And.intro ?_ ?_)
    · (repeat' first | exact trivial | exact rfl | refine And.intro ?_ ?_)
    intro v hv _
    subst hv
    intro _
    refine call_pure [] (Visual_ok s dir hE.1 hE.2) rfl rfl rfl ?_ ?_ ?_
    · (repeat' first | exact trivial | exact rfl | refine And.intro ?_ ?_)
    · (repeat' first | exact trivial | exact rfl | refine And.intro ?_ ?_)
    intro v hv _
    subst hv
    intro _
    refine call_pure [] (rVisual_ok s dir hE.1 hE.2) rfl rfl rfl ?_ ?_ ?_
    · (repeat' first | exact trivial | exact rfl | refine And.intro ?_ ?_)
    · (repeat' first | exact trivial | exact rfl | refine And.intro ?_ ?_)
    intro v hv _
    subst hv
    intro _; refine ⟨fun _ => ?_, fun g => absurd g (by decide)⟩
    intro _; refine ⟨fun _ => ?_, fun g => absurd (beq_self_eq_true (VS s dir)) (by rw [show (VS s dir == VS s dir) = false from g]; decide)⟩
    intro _
    rfl
  refine call_pure [] (Levels_err s dir hl hE) rfl rfl rfl ?_ ?_ ?_
  · (repeat' first | exact trivial | exact rfl | refine And.intro ?_ ?_)
  · (repeat' first | exact trivial | exact rfl | refine And.intro ?_ ?_)
  intro v hv _
  subst hv
  intro _
  refine call_pure [] (rLevels_err s dir hl hE) rfl rfl rfl ?_ ?_ ?_
  · (repeat' first | exact trivial | exact rfl | refine And.intro ?_ ?_)
  · (repeat' first | exact trivial | exact rfl | refine And.intro ?_ ?_)
  intro v hv _
  subst hv
  intro _
  refine call_pure [] (same_nil) rfl rfl rfl ?_ ?_ ?_
  · (repeat' first | exact trivial | exact rfl | refine And.intro ?_ ?_)
  · (repeat' first | exact trivial | exact rfl | refine And.intro ?_ ?_)
  intro v hv _
  subst hv
  intro _
  refine call_pure [] (Order_err s dir hl hE) rfl rfl rfl ?_ ?_ ?_
  · (repeat' first | exact trivial | exact rfl | refine And.intro ?_ ?_)
  · (repeat' first | exact trivial | exact rfl | refine And.intro ?_ ?_)
  intro v hv _
  subst hv
  intro _
  refine call_pure [] (rOrder_err s dir hl hE) rfl rfl rfl ?_ ?_ ?_
  · (repeat' first | exact trivial | exact rfl | refine And.intro ?_ ?_)
  · (repeat' first | exact trivial | exact rfl | refine And.intro ?_ ?_)
  intro v hv _
  subst hv
  intro _; refine ⟨fun _ => ?_, fun g => absurd g (by decide)⟩
  intro _
  refine call_pure [] (same_nil) rfl rfl rfl ?_ ?_ ?_
  · (repeat' first | exact trivial | exact rfl | refine And.intro ?_ ?_)
  · (repeat' first | exact trivial | exact rfl | refine And.intro ?_ ?_)
  intro v hv _
  subst hv
  intro _
  refine call_pure [] (Visual_err s dir hl hE) rfl rfl rfl ?_ ?_ ?_
  · (repeat' first | exact trivial | exact rfl | refine And.intro ?_ ?_)
  · (repeat' first | exact trivial | exact rfl | refine And.intro ?_ ?_)
  intro v hv _
  subst hv
  intro _
  refine call_pure [] (rVisual_err s dir hl hE) rfl rfl rfl ?_ ?_ ?_
  · (repeat' first | exact trivial | exact rfl | refine And.intro ?_ ?_)
  · (repeat' first | exact trivial | exact rfl | refine And.intro ?_ ?_)
  intro v hv _
  subst hv
  intro _; refine ⟨fun _ => ?_, fun g => absurd g (by decide)⟩
  intro _; refine ⟨fun _ => ?_, fun g => absurd g (by decide)⟩
  intro _
  rfl

theorem walk (w : World) (s : List UInt8) (m_s : s.length ≤ maxLen) (dir : Int) (w_dir : (Lit.int .i64 dir).wf = true) :
    Calls Try.prog 3 #[.string ⟨s.toArray⟩, .int .i64 dir] w fun e w' => e = .returned (.bool true) ∧ Below w.heap.size w w' := by
  have h_s : s.length ≤ 9223372036854775807 := by unfold maxLen at m_s; omega
  have b_dir := w_dir
  simp [Lit.wf, IntKind.min, IntKind.max, IntKind.signed, IntKind.bits] at b_dir
  exact top_run (by kernel_rfl) (by kernel_rfl) (T := [10]) (fun f hf w => by
      rcases List.mem_cons.1 hf with e | e
      · subst e; exact head w
      · exact (List.not_mem_nil e).elim) (l := []) (args := [.str s, .int .i64 dir]) («as» := [.str s, .int .i64 dir]) (cargs := [.string ⟨s.toArray⟩, .int .i64 dir]) w
    (fun s h => by
      exact (List.not_mem_nil h).elim)
    (Cvs.cons mk_str (Cvs.cons mk_int Cvs.nil))
    (by simp only [Go.Vm.convs, Go.Vm.conv])
    (law3 s dir h_s)

set_option maxRecDepth 100000 in
theorem lifted (os : Os) (started : os.Started) (H : Type) (enc : TypeId × Value → H) :
    ReturnsInHanded {} Try.checked os 3 .any (Rows.bidiMatchesReferenceSpec.pre6 enc Try.prog Try.f3 Rows.bidiMatchesReferenceRow.domain false) (Rows.bidiMatchesReferenceSpec.post enc Try.prog Try.f3 false true false false) := by
  refine returnsInHanded_of_change (C := Try.checked) own started (by kernel_rfl) Try.func3
    (ChangeSpec.witness6 (enc := enc) (C := Try.checked) false ⟨#[], #[.string ⟨#[]⟩, .int .i64 0], []⟩ 8 (by kernel_rfl) (by kernel_rfl) (by kernel_rfl) (by kernel_rfl)) ?_
  intro W base args ds gs before hval0 hW hcnd _
  have hval : ∀ (j : Nat) t v, Try.f3.params[j]? = some t → args[j]? = some v → Value.okWide Try.prog W .any base t v := hval0
  have hW' := hW
  obtain ⟨p, q, hA0, hV, rfl, hfz, hnd⟩ := hW
  have hA : DataW.TrodAll enc Try.prog W 0 (fun _ => true) true Try.f3.params.toList args.toList ds p := hA0
  rw [Try.params3] at hA hval
  obtain ⟨v0, vs0, d0, ds0, p0, q0, hargs, rfl, rfl, h0, r0⟩ := trodAll_cons hA
  obtain ⟨v1, vs1, d1, ds1, p1, q1, rfl, rfl, rfl, h1, r1⟩ := trodAll_cons r0
  obtain ⟨rfl, rfl, rfl⟩ := trodAll_nil r1
  obtain rfl : args = #[v0, v1] := by cases args; simp_all
  obtain ⟨rfl, rfl⟩ := trodVars_none hV
  obtain ⟨sb_s, rfl, rfl, rfl, m0_s⟩ := Go.ChangeMaps.open_string Try.underlying9 (hval 0 9 v0 rfl rfl) h0
  obtain ⟨s, rfl⟩ : ∃ a : List UInt8, sb_s = ⟨a.toArray⟩ := ⟨sb_s.data.toList, by cases sb_s; simp⟩
  obtain ⟨dir, rfl, rfl, rfl, w_dir⟩ := open_int Try.underlying3 (hval 1 3 v1 rfl rfl) h1
  clear hA0 hval0
  refine (walk W s (by simpa [ByteArray.size] using m0_s) dir w_dir).mono fun e W' ⟨he, hg⟩ => ?_
  subst he
  exact ⟨_, rfl, _, _, _, [], _, [], hW', trodAll_cons_mk (shut_bool Try.underlying4 _) trodAll_mk0, (trodAll_cons_mk (Go.ChangeMaps.shut_string Try.underlying9 m0_s) (trodAll_cons_mk (shut_int Try.underlying3 w_dir) trodAll_mk0)), rfl, hg.frame _, fun h => by cases h⟩

theorem over : Rows.bidiMatchesReferenceRow.holds Try.pinned (OpenSpec.ofChange Rows.bidiMatchesReferenceSpec) :=
  OpenClaim.holds_of_wide 3 Try.f3 rfl rfl rfl rfl rfl rfl rfl ⟨rfl, rfl, rfl, rfl, rfl⟩ rfl rfl rfl rfl rfl (by kernel_rfl) Try.func3 (by kernel_rfl)
    (of_decide_eq_true (by kernel_rfl)) (by unfold Func.isWrapper; first | (rw [if_pos (by decide +kernel)]; kernel_rfl) | (rw [if_neg (by decide +kernel)]; exact ⟨rfl, rfl⟩))
    (fun os started H enc _ => lifted os started H enc)

/-- the statement -/
theorem proved : Rows.BidiMatchesReferenceSaid :=
  over
#print axioms proved
end Go.Proofs.Ytjncagdiligikaa.bidiMatchesReference
