/-
  BidiLevels: whatever the arguments, the law returns true, and its arguments read as before. No conditions.
-/
import Derived.Test.YtjncagdiligikaaRows
import Derived.Test.YtjncagdiligikaaVwOpen2
import Derived.Test.YtjncagdiligikaaVwRules6
import Derived.Test.YtjncagdiligikaaVmSym
import Derived.WalkKit
import Derived.ProofKit
import Derived.OpenShut
import Derived.Carry
import Derived.ChangeMaps5
import Derived.Laws.RangeAny
namespace Go.Proofs.Ytjncagdiligikaa.bidiLevels
open Go.ChangeShapes Go.WideShapes Go.ChangeAt Go.RowKit
open Go.Vm (Facts Val Sound)
open Go.Vm2
set_option linter.unusedVariables false
set_option linter.unusedSectionVars false

theorem own : ownKnob Try.prog.godebug = none := by kernel_rfl
theorem laidOut : laidOutB Try.prog = true := by kernel_rfl
def ts : List Nat := [9, 24, 3, 23, 5, 45, 46, 4, 48, 21, 42]
def tt : Go.Vm2.TT := [
  (9, ⟨.string, false, 1, .str [], true⟩),
  (24, ⟨(.int .i64), false, 1, .int .i64 (0), true⟩),
  (3, ⟨(.int .i64), false, 1, .int .i64 (0), true⟩),
  (23, ⟨(.slice 3 1 8 [.int .i64]), false, 1, .nils, true⟩),
  (5, ⟨(.int .u8), false, 1, .int .u8 (0), true⟩),
  (45, ⟨(.slice 5 1 1 [.int .u8]), false, 1, .nils, true⟩),
  (46, ⟨(.slice 4 1 1 [.bool]), false, 1, .nils, true⟩),
  (4, ⟨.bool, false, 1, .bool false, true⟩),
  (48, ⟨(.array 2 3 1), true, 2, .agg [.int .i64 (0), .int .i64 (0)], true⟩),
  (21, ⟨(.int .i32), false, 1, .int .i32 (0), true⟩),
  (42, ⟨.other, false, 1, .nilf, true⟩)]
theorem tt_mk : mkTT Try.prog ts = some tt := by kernel_rfl
theorem head (w : World) : Calls Try.prog 10 #[] w fun e w' => e = .returned (.bool true) ∧ Below w.heap.size w w' :=
  Go.Vm.head_run (by kernel_rfl) (by kernel_rfl) (n := 1000000) (by kernel_rfl) w
instance facts : Facts := ⟨[], [10], false⟩
instance val : Val := ⟨fun _ => 0⟩
instance sound : Sound := ⟨fun f hf => (List.not_mem_nil hf).elim⟩
theorem tt_ok : TTok Try.prog tt := ttok_mk tt_mk
def body (f : Func) : Code := match f.body with | some c => c | none => .skip
set_option maxRecDepth 100000
theorem wrap_nat (k : Nat) (h : k < 9223372036854775807) : IntKind.i64.wrap ((k : Int) + 1) = ((k + 1 : Nat) : Int) := by
  rw [IntKind.wrap_i64]; omega
theorem wrapS (n : Int) (h : -9000000000000000000 ≤ n ∧ n ≤ 9000000000000000000) : IntKind.i64.wrap n = n := by rw [IntKind.wrap_i64]; omega
/-! classes of bytes -/
def cl (n : Int) : Int := if 97 ≤ n ∧ n ≤ 122 then 1 else if 65 ≤ n ∧ n ≤ 90 then 2 else if 48 ≤ n ∧ n ≤ 57 then 3 else if n = 32 then 4 else if n = 126 then 6 else if 32 < n ∧ n < 126 then 5 else 0
theorem cl_high {n : Int} (h : 128 ≤ n) : cl n = 0 := by unfold cl; repeat' split
                                                         all_goals omega
theorem rclass_ok (n : Int) : SemF Try.prog 22 [.int .u8 n] ⟨0, 0, []⟩ (fun v _ => v = .int .i64 (cl n) ∧ nameless v = true) := by
  refine enter tt_ok Try.func22 (nt := 31) (cd := body Try.f22) rfl rfl rfl rfl ?_
  intro _; refine ⟨fun g => ?_, fun g => ?_⟩
  · have g := of_decide_eq_true (show decide (n ≥ 97) = true from g)
    intro _; refine ⟨fun g => ?_, fun g => ?_⟩
    · have g := of_decide_eq_true (show decide (n ≤ 122) = true from g)
      intro _
      exact ⟨by rw [show cl n = 1 by (unfold cl; repeat' split) <;> omega], rfl⟩
    · have g := of_decide_eq_false (show decide (n ≤ 122) = false from g)
      intro _; refine ⟨fun g => ?_, fun g => ?_⟩
      · have g := of_decide_eq_true (show decide (n ≥ 65) = true from g)
        intro _; refine ⟨fun g => ?_, fun g => ?_⟩
        · have g := of_decide_eq_true (show decide (n ≤ 90) = true from g)
          intro _
          exact ⟨by rw [show cl n = 2 by (unfold cl; repeat' split) <;> omega], rfl⟩
        · have g := of_decide_eq_false (show decide (n ≤ 90) = false from g)
          intro _; refine ⟨fun g => ?_, fun g => ?_⟩
          · have g := of_decide_eq_true (show decide (n ≥ 48) = true from g)
            intro _; refine ⟨fun g => ?_, fun g => ?_⟩
            · have g := of_decide_eq_true (show decide (n ≤ 57) = true from g)
              intro _
              exact ⟨by rw [show cl n = 3 by (unfold cl; repeat' split) <;> omega], rfl⟩
            · have g := of_decide_eq_false (show decide (n ≤ 57) = false from g)
              intro _; refine ⟨fun g => ?_, fun g => ?_⟩
              · have g : (n == 32) = true := g
                have g : n = 32 := by simpa using g
                intro _
                exact ⟨by rw [show cl n = 4 by (unfold cl; repeat' split) <;> omega], rfl⟩
              · have g : (n == 32) = false := g
                have g : ¬ n = 32 := by simpa using g
                intro _; refine ⟨fun g => ?_, fun g => ?_⟩
                · have g : (n == 126) = true := g
                  have g : n = 126 := by simpa using g
                  intro _
                  exact ⟨by rw [show cl n = 6 by (unfold cl; repeat' split) <;> omega], rfl⟩
                · have g : (n == 126) = false := g
                  have g : ¬ n = 126 := by simpa using g
                  intro _; refine ⟨fun g => ?_, fun g => ?_⟩
                  · have g := of_decide_eq_true (show decide (n > 32) = true from g)
                    intro _; refine ⟨fun g => ?_, fun g => ?_⟩
                    · have g := of_decide_eq_true (show decide (n < 126) = true from g)
                      intro _
                      exact ⟨by rw [show cl n = 5 by (unfold cl; repeat' split) <;> omega], rfl⟩
                    · have g := of_decide_eq_false (show decide (n < 126) = false from g)
                      intro _
                      exact ⟨by rw [show cl n = 0 by (unfold cl; repeat' split) <;> omega], rfl⟩
                  · have g := of_decide_eq_false (show decide (n > 32) = false from g)
                    intro _
                    exact ⟨by rw [show cl n = 0 by (unfold cl; repeat' split) <;> omega], rfl⟩
          · have g := of_decide_eq_false (show decide (n ≥ 48) = false from g)
            intro _; refine ⟨fun g => ?_, fun g => ?_⟩
            · have g : (n == 32) = true := g
              have g : n = 32 := by simpa using g
              intro _
              exact ⟨by rw [show cl n = 4 by (unfold cl; repeat' split) <;> omega], rfl⟩
            · have g : (n == 32) = false := g
              have g : ¬ n = 32 := by simpa using g
              intro _; refine ⟨fun g => ?_, fun g => ?_⟩
              · have g : (n == 126) = true := g
                have g : n = 126 := by simpa using g
                intro _
                exact ⟨by rw [show cl n = 6 by (unfold cl; repeat' split) <;> omega], rfl⟩
              · have g : (n == 126) = false := g
                have g : ¬ n = 126 := by simpa using g
                intro _; refine ⟨fun g => ?_, fun g => ?_⟩
                · have g := of_decide_eq_true (show decide (n > 32) = true from g)
                  intro _; refine ⟨fun g => ?_, fun g => ?_⟩
                  · have g := of_decide_eq_true (show decide (n < 126) = true from g)
                    intro _
                    exact ⟨by rw [show cl n = 5 by (unfold cl; repeat' split) <;> omega], rfl⟩
                  · have g := of_decide_eq_false (show decide (n < 126) = false from g)
                    intro _
                    exact ⟨by rw [show cl n = 0 by (unfold cl; repeat' split) <;> omega], rfl⟩
                · have g := of_decide_eq_false (show decide (n > 32) = false from g)
                  intro _
                  exact ⟨by rw [show cl n = 0 by (unfold cl; repeat' split) <;> omega], rfl⟩
      · have g := of_decide_eq_false (show decide (n ≥ 65) = false from g)
        intro _; refine ⟨fun g => ?_, fun g => ?_⟩
        · have g := of_decide_eq_true (show decide (n ≥ 48) = true from g)
          intro _; refine ⟨fun g => ?_, fun g => ?_⟩
          · have g := of_decide_eq_true (show decide (n ≤ 57) = true from g)
            intro _
            exact ⟨by rw [show cl n = 3 by (unfold cl; repeat' split) <;> omega], rfl⟩
          · have g := of_decide_eq_false (show decide (n ≤ 57) = false from g)
            intro _; refine ⟨fun g => ?_, fun g => ?_⟩
            · have g : (n == 32) = true := g
              have g : n = 32 := by simpa using g
              intro _
              exact ⟨by rw [show cl n = 4 by (unfold cl; repeat' split) <;> omega], rfl⟩
            · have g : (n == 32) = false := g
              have g : ¬ n = 32 := by simpa using g
              intro _; refine ⟨fun g => ?_, fun g => ?_⟩
              · have g : (n == 126) = true := g
                have g : n = 126 := by simpa using g
                intro _
                exact ⟨by rw [show cl n = 6 by (unfold cl; repeat' split) <;> omega], rfl⟩
              · have g : (n == 126) = false := g
                have g : ¬ n = 126 := by simpa using g
                intro _; refine ⟨fun g => ?_, fun g => ?_⟩
                · have g := of_decide_eq_true (show decide (n > 32) = true from g)
                  intro _; refine ⟨fun g => ?_, fun g => ?_⟩
                  · have g := of_decide_eq_true (show decide (n < 126) = true from g)
                    intro _
                    exact ⟨by rw [show cl n = 5 by (unfold cl; repeat' split) <;> omega], rfl⟩
                  · have g := of_decide_eq_false (show decide (n < 126) = false from g)
                    intro _
                    exact ⟨by rw [show cl n = 0 by (unfold cl; repeat' split) <;> omega], rfl⟩
                · have g := of_decide_eq_false (show decide (n > 32) = false from g)
                  intro _
                  exact ⟨by rw [show cl n = 0 by (unfold cl; repeat' split) <;> omega], rfl⟩
        · have g := of_decide_eq_false (show decide (n ≥ 48) = false from g)
          intro _; refine ⟨fun g => ?_, fun g => ?_⟩
          · have g : (n == 32) = true := g
            have g : n = 32 := by simpa using g
            intro _
            exact ⟨by rw [show cl n = 4 by (unfold cl; repeat' split) <;> omega], rfl⟩
          · have g : (n == 32) = false := g
            have g : ¬ n = 32 := by simpa using g
            intro _; refine ⟨fun g => ?_, fun g => ?_⟩
            · have g : (n == 126) = true := g
              have g : n = 126 := by simpa using g
              intro _
              exact ⟨by rw [show cl n = 6 by (unfold cl; repeat' split) <;> omega], rfl⟩
            · have g : (n == 126) = false := g
              have g : ¬ n = 126 := by simpa using g
              intro _; refine ⟨fun g => ?_, fun g => ?_⟩
              · have g := of_decide_eq_true (show decide (n > 32) = true from g)
                intro _; refine ⟨fun g => ?_, fun g => ?_⟩
                · have g := of_decide_eq_true (show decide (n < 126) = true from g)
                  intro _
                  exact ⟨by rw [show cl n = 5 by (unfold cl; repeat' split) <;> omega], rfl⟩
                · have g := of_decide_eq_false (show decide (n < 126) = false from g)
                  intro _
                  exact ⟨by rw [show cl n = 0 by (unfold cl; repeat' split) <;> omega], rfl⟩
              · have g := of_decide_eq_false (show decide (n > 32) = false from g)
                intro _
                exact ⟨by rw [show cl n = 0 by (unfold cl; repeat' split) <;> omega], rfl⟩
  · have g := of_decide_eq_false (show decide (n ≥ 97) = false from g)
    intro _; refine ⟨fun g => ?_, fun g => ?_⟩
    · have g := of_decide_eq_true (show decide (n ≥ 65) = true from g)
      intro _; refine ⟨fun g => ?_, fun g => ?_⟩
      · have g := of_decide_eq_true (show decide (n ≤ 90) = true from g)
        intro _
        exact ⟨by rw [show cl n = 2 by (unfold cl; repeat' split) <;> omega], rfl⟩
      · have g := of_decide_eq_false (show decide (n ≤ 90) = false from g)
        intro _; refine ⟨fun g => ?_, fun g => ?_⟩
        · have g := of_decide_eq_true (show decide (n ≥ 48) = true from g)
          intro _; refine ⟨fun g => ?_, fun g => ?_⟩
          · have g := of_decide_eq_true (show decide (n ≤ 57) = true from g)
            intro _
            exact ⟨by rw [show cl n = 3 by (unfold cl; repeat' split) <;> omega], rfl⟩
          · have g := of_decide_eq_false (show decide (n ≤ 57) = false from g)
            intro _; refine ⟨fun g => ?_, fun g => ?_⟩
            · have g : (n == 32) = true := g
              have g : n = 32 := by simpa using g
              intro _
              exact ⟨by rw [show cl n = 4 by (unfold cl; repeat' split) <;> omega], rfl⟩
            · have g : (n == 32) = false := g
              have g : ¬ n = 32 := by simpa using g
              intro _; refine ⟨fun g => ?_, fun g => ?_⟩
              · have g : (n == 126) = true := g
                have g : n = 126 := by simpa using g
                intro _
                exact ⟨by rw [show cl n = 6 by (unfold cl; repeat' split) <;> omega], rfl⟩
              · have g : (n == 126) = false := g
                have g : ¬ n = 126 := by simpa using g
                intro _; refine ⟨fun g => ?_, fun g => ?_⟩
                · have g := of_decide_eq_true (show decide (n > 32) = true from g)
                  intro _; refine ⟨fun g => ?_, fun g => ?_⟩
                  · have g := of_decide_eq_true (show decide (n < 126) = true from g)
                    intro _
                    exact ⟨by rw [show cl n = 5 by (unfold cl; repeat' split) <;> omega], rfl⟩
                  · have g := of_decide_eq_false (show decide (n < 126) = false from g)
                    intro _
                    exact ⟨by rw [show cl n = 0 by (unfold cl; repeat' split) <;> omega], rfl⟩
                · have g := of_decide_eq_false (show decide (n > 32) = false from g)
                  intro _
                  exact ⟨by rw [show cl n = 0 by (unfold cl; repeat' split) <;> omega], rfl⟩
        · have g := of_decide_eq_false (show decide (n ≥ 48) = false from g)
          intro _; refine ⟨fun g => ?_, fun g => ?_⟩
          · have g : (n == 32) = true := g
            have g : n = 32 := by simpa using g
            intro _
            exact ⟨by rw [show cl n = 4 by (unfold cl; repeat' split) <;> omega], rfl⟩
          · have g : (n == 32) = false := g
            have g : ¬ n = 32 := by simpa using g
            intro _; refine ⟨fun g => ?_, fun g => ?_⟩
            · have g : (n == 126) = true := g
              have g : n = 126 := by simpa using g
              intro _
              exact ⟨by rw [show cl n = 6 by (unfold cl; repeat' split) <;> omega], rfl⟩
            · have g : (n == 126) = false := g
              have g : ¬ n = 126 := by simpa using g
              intro _; refine ⟨fun g => ?_, fun g => ?_⟩
              · have g := of_decide_eq_true (show decide (n > 32) = true from g)
                intro _; refine ⟨fun g => ?_, fun g => ?_⟩
                · have g := of_decide_eq_true (show decide (n < 126) = true from g)
                  intro _
                  exact ⟨by rw [show cl n = 5 by (unfold cl; repeat' split) <;> omega], rfl⟩
                · have g := of_decide_eq_false (show decide (n < 126) = false from g)
                  intro _
                  exact ⟨by rw [show cl n = 0 by (unfold cl; repeat' split) <;> omega], rfl⟩
              · have g := of_decide_eq_false (show decide (n > 32) = false from g)
                intro _
                exact ⟨by rw [show cl n = 0 by (unfold cl; repeat' split) <;> omega], rfl⟩
    · have g := of_decide_eq_false (show decide (n ≥ 65) = false from g)
      intro _; refine ⟨fun g => ?_, fun g => ?_⟩
      · have g := of_decide_eq_true (show decide (n ≥ 48) = true from g)
        intro _; refine ⟨fun g => ?_, fun g => ?_⟩
        · have g := of_decide_eq_true (show decide (n ≤ 57) = true from g)
          intro _
          exact ⟨by rw [show cl n = 3 by (unfold cl; repeat' split) <;> omega], rfl⟩
        · have g := of_decide_eq_false (show decide (n ≤ 57) = false from g)
          intro _; refine ⟨fun g => ?_, fun g => ?_⟩
          · have g : (n == 32) = true := g
            have g : n = 32 := by simpa using g
            intro _
            exact ⟨by rw [show cl n = 4 by (unfold cl; repeat' split) <;> omega], rfl⟩
          · have g : (n == 32) = false := g
            have g : ¬ n = 32 := by simpa using g
            intro _; refine ⟨fun g => ?_, fun g => ?_⟩
            · have g : (n == 126) = true := g
              have g : n = 126 := by simpa using g
              intro _
              exact ⟨by rw [show cl n = 6 by (unfold cl; repeat' split) <;> omega], rfl⟩
            · have g : (n == 126) = false := g
              have g : ¬ n = 126 := by simpa using g
              intro _; refine ⟨fun g => ?_, fun g => ?_⟩
              · have g := of_decide_eq_true (show decide (n > 32) = true from g)
                intro _; refine ⟨fun g => ?_, fun g => ?_⟩
                · have g := of_decide_eq_true (show decide (n < 126) = true from g)
                  intro _
                  exact ⟨by rw [show cl n = 5 by (unfold cl; repeat' split) <;> omega], rfl⟩
                · have g := of_decide_eq_false (show decide (n < 126) = false from g)
                  intro _
                  exact ⟨by rw [show cl n = 0 by (unfold cl; repeat' split) <;> omega], rfl⟩
              · have g := of_decide_eq_false (show decide (n > 32) = false from g)
                intro _
                exact ⟨by rw [show cl n = 0 by (unfold cl; repeat' split) <;> omega], rfl⟩
      · have g := of_decide_eq_false (show decide (n ≥ 48) = false from g)
        intro _; refine ⟨fun g => ?_, fun g => ?_⟩
        · have g : (n == 32) = true := g
          have g : n = 32 := by simpa using g
          intro _
          exact ⟨by rw [show cl n = 4 by (unfold cl; repeat' split) <;> omega], rfl⟩
        · have g : (n == 32) = false := g
          have g : ¬ n = 32 := by simpa using g
          intro _; refine ⟨fun g => ?_, fun g => ?_⟩
          · have g : (n == 126) = true := g
            have g : n = 126 := by simpa using g
            intro _
            exact ⟨by rw [show cl n = 6 by (unfold cl; repeat' split) <;> omega], rfl⟩
          · have g : (n == 126) = false := g
            have g : ¬ n = 126 := by simpa using g
            intro _; refine ⟨fun g => ?_, fun g => ?_⟩
            · have g := of_decide_eq_true (show decide (n > 32) = true from g)
              intro _; refine ⟨fun g => ?_, fun g => ?_⟩
              · have g := of_decide_eq_true (show decide (n < 126) = true from g)
                intro _
                exact ⟨by rw [show cl n = 5 by (unfold cl; repeat' split) <;> omega], rfl⟩
              · have g := of_decide_eq_false (show decide (n < 126) = false from g)
                intro _
                exact ⟨by rw [show cl n = 0 by (unfold cl; repeat' split) <;> omega], rfl⟩
            · have g := of_decide_eq_false (show decide (n > 32) = false from g)
              intro _
              exact ⟨by rw [show cl n = 0 by (unfold cl; repeat' split) <;> omega], rfl⟩
theorem dig_test (n : Int) (h : H) (K : V → H → Prop) (hK : K (.test (decide (48 ≤ n ∧ n ≤ 57))) h) : SemF Try.prog 37 [.int .i32 n] h K := by
  refine SemF.test ?_
  refine enter tt_ok Try.func37 (nt := 9) (cd := body Try.f37) rfl rfl rfl rfl ?_
  intro _; refine ⟨fun g => ?_, fun g => ?_⟩
  · have g := of_decide_eq_true (show decide (n ≥ 48) = true from g)
    intro _
    refine ⟨_, .inr rfl, ?_⟩
    have : decide (48 ≤ n ∧ n ≤ 57) = decide (n ≤ 57) := by
      by_cases e : n ≤ 57
      · rw [decide_eq_true e, decide_eq_true (show 48 ≤ n ∧ n ≤ 57 from ⟨by omega, e⟩)]
      · rw [decide_eq_false e, decide_eq_false (fun m => e m.2)]
    rw [← this]; exact hK
  · have g := of_decide_eq_false (show decide (n ≥ 48) = false from g)
    intro _
    refine ⟨false, .inl rfl, ?_⟩
    have : decide (48 ≤ n ∧ n ≤ 57) = false := decide_eq_false (fun m => by have := m.1; omega)
    rw [← this]; exact hK
theorem cap_test (n : Int) (h : H) (K : V → H → Prop) (hK : K (.test (decide (65 ≤ n ∧ n ≤ 90))) h) : SemF Try.prog 38 [.int .i32 n] h K := by
  refine SemF.test ?_
  refine enter tt_ok Try.func38 (nt := 9) (cd := body Try.f38) rfl rfl rfl rfl ?_
  intro _; refine ⟨fun g => ?_, fun g => ?_⟩
  · have g := of_decide_eq_true (show decide (n ≥ 65) = true from g)
    intro _
    refine ⟨_, .inr rfl, ?_⟩
    have : decide (65 ≤ n ∧ n ≤ 90) = decide (n ≤ 90) := by
      by_cases e : n ≤ 90
      · rw [decide_eq_true e, decide_eq_true (show 65 ≤ n ∧ n ≤ 90 from ⟨by omega, e⟩)]
      · rw [decide_eq_false e, decide_eq_false (fun m => e m.2)]
    rw [← this]; exact hK
  · have g := of_decide_eq_false (show decide (n ≥ 65) = false from g)
    intro _
    refine ⟨false, .inl rfl, ?_⟩
    have : decide (65 ≤ n ∧ n ≤ 90) = false := decide_eq_false (fun m => by have := m.1; omega)
    rw [← this]; exact hK
theorem sml_test (n : Int) (h : H) (K : V → H → Prop) (hK : K (.test (decide (97 ≤ n ∧ n ≤ 122))) h) : SemF Try.prog 39 [.int .i32 n] h K := by
  refine SemF.test ?_
  refine enter tt_ok Try.func39 (nt := 9) (cd := body Try.f39) rfl rfl rfl rfl ?_
  intro _; refine ⟨fun g => ?_, fun g => ?_⟩
  · have g := of_decide_eq_true (show decide (n ≥ 97) = true from g)
    intro _
    refine ⟨_, .inr rfl, ?_⟩
    have : decide (97 ≤ n ∧ n ≤ 122) = decide (n ≤ 122) := by
      by_cases e : n ≤ 122
      · rw [decide_eq_true e, decide_eq_true (show 97 ≤ n ∧ n ≤ 122 from ⟨by omega, e⟩)]
      · rw [decide_eq_false e, decide_eq_false (fun m => e m.2)]
    rw [← this]; exact hK
  · have g := of_decide_eq_false (show decide (n ≥ 97) = false from g)
    intro _
    refine ⟨false, .inl rfl, ?_⟩
    have : decide (97 ≤ n ∧ n ≤ 122) = false := decide_eq_false (fun m => by have := m.1; omega)
    rw [← this]; exact hK
def sg (n : Int) : Bool := decide (32 < n ∧ n < 126 ∧ ¬ (97 ≤ n ∧ n ≤ 122) ∧ ¬ (65 ≤ n ∧ n ≤ 90) ∧ ¬ (48 ≤ n ∧ n ≤ 57))
theorem sign_test (n : Int) (h : H) (K : V → H → Prop) (hK : K (.test (sg n)) h) : SemF Try.prog 36 [.int .i32 n] h K := by
  refine SemF.test ?_
  refine enter tt_ok Try.func36 (nt := 24) (cd := body Try.f36) rfl rfl rfl rfl ?_
  have no : ∀ P : Prop, (sg n = true → P) → ¬ P → ∃ b, (V.bool false = .bool b ∨ V.bool false = .test b) ∧ K (.test b) h := fun P h1 h2 => ⟨false, .inl rfl, by
    have : sg n = false := by
      cases e : sg n with
      | false => rfl
      | true => exact absurd (h1 e) h2
    rw [← this]; exact hK⟩
  have un : sg n = true → (32 < n ∧ n < 126 ∧ ¬ (97 ≤ n ∧ n ≤ 122) ∧ ¬ (65 ≤ n ∧ n ≤ 90) ∧ ¬ (48 ≤ n ∧ n ≤ 57)) := fun h => of_decide_eq_true h
  intro _; refine ⟨fun g => ?_, fun g => ?_⟩
  rotate_left
  · have g := of_decide_eq_false (show decide (n > 32) = false from g)
    intro _
    exact no (32 < n) (fun h => (un h).1) (by omega)
  have g1 := of_decide_eq_true (show decide (n > 32) = true from g)
  intro _; refine ⟨fun g => ?_, fun g => ?_⟩
  rotate_left
  · have g := of_decide_eq_false (show decide (n < 126) = false from g)
    intro _
    exact no (n < 126) (fun h => (un h).2.1) (by omega)
  have g2 := of_decide_eq_true (show decide (n < 126) = true from g)
  intro _
  refine sml_test _ _ _ ?_
  intro _; refine ⟨fun g => ?_, fun g => ?_⟩
  rotate_left
  · have g : (!decide (97 ≤ n ∧ n ≤ 122)) = false := g
    rw [Bool.not_eq_false'] at g
    have g := of_decide_eq_true g
    intro _
    exact no (¬ (97 ≤ n ∧ n ≤ 122)) (fun h => (un h).2.2.1) (fun h => h g)
  have g : (!decide (97 ≤ n ∧ n ≤ 122)) = true := g
  rw [Bool.not_eq_true'] at g
  have g3 := of_decide_eq_false g
  intro _
  refine cap_test _ _ _ ?_
  intro _; refine ⟨fun g => ?_, fun g => ?_⟩
  rotate_left
  · have g : (!decide (65 ≤ n ∧ n ≤ 90)) = false := g
    rw [Bool.not_eq_false'] at g
    have g := of_decide_eq_true g
    intro _
    exact no (¬ (65 ≤ n ∧ n ≤ 90)) (fun h => (un h).2.2.2.1) (fun h => h g)
  have g : (!decide (65 ≤ n ∧ n ≤ 90)) = true := g
  rw [Bool.not_eq_true'] at g
  have g4 := of_decide_eq_false g
  intro _
  refine dig_test _ _ _ ?_
  intro _
  refine ⟨_, .inr rfl, ?_⟩
  have : sg n = !decide (48 ≤ n ∧ n ≤ 57) := by
    by_cases e : 48 ≤ n ∧ n ≤ 57
    · rw [decide_eq_true e]; exact decide_eq_false (fun h => h.2.2.2.2 e)
    · rw [decide_eq_false e]; exact decide_eq_true ⟨g1, g2, g3, g4, e⟩
  rw [← this]; exact hK
theorem class_ok (n : Int) : SemF Try.prog 31 [.int .i32 n] ⟨0, 0, []⟩ (fun v _ => v = .int .i64 (cl n) ∧ nameless v = true) := by
  refine enter tt_ok Try.func31 (nt := 35) (cd := body Try.f31) rfl rfl rfl rfl ?_
  intro _; refine ⟨fun g => ?_, fun g => ?_⟩
  · have g : (n == 126) = true := g
    have g : n = 126 := by simpa using g
    intro _
    refine ⟨?_, rfl⟩
    rw [show cl n = 6 by (unfold cl; repeat' split) <;> omega]
    rfl
  have g : (n == 126) = false := g
  have g6 : ¬ n = 126 := by simpa using g
  intro _
  refine sign_test _ _ _ ?_
  intro _; refine ⟨fun g => ?_, fun g => ?_⟩
  · have g := of_decide_eq_true (show decide (32 < n ∧ n < 126 ∧ ¬ (97 ≤ n ∧ n ≤ 122) ∧ ¬ (65 ≤ n ∧ n ≤ 90) ∧ ¬ (48 ≤ n ∧ n ≤ 57)) = true from g)
    intro _
    refine ⟨?_, rfl⟩
    rw [show cl n = 5 by (unfold cl; repeat' split) <;> omega]
    rfl
  have g5 := of_decide_eq_false (show decide (32 < n ∧ n < 126 ∧ ¬ (97 ≤ n ∧ n ≤ 122) ∧ ¬ (65 ≤ n ∧ n ≤ 90) ∧ ¬ (48 ≤ n ∧ n ≤ 57)) = false from g)
  intro _; refine ⟨fun g => ?_, fun g => ?_⟩
  · have g : (n == 32) = true := g
    have g : n = 32 := by simpa using g
    intro _
    refine ⟨?_, rfl⟩
    rw [show cl n = 4 by (unfold cl; repeat' split) <;> omega]
    rfl
  have g : (n == 32) = false := g
  have g4 : ¬ n = 32 := by simpa using g
  intro _
  refine dig_test _ _ _ ?_
  intro _; refine ⟨fun g => ?_, fun g => ?_⟩
  · have g := of_decide_eq_true (show decide (48 ≤ n ∧ n ≤ 57) = true from g)
    intro _
    refine ⟨?_, rfl⟩
    rw [show cl n = 3 by (unfold cl; repeat' split) <;> omega]
    rfl
  have g3 := of_decide_eq_false (show decide (48 ≤ n ∧ n ≤ 57) = false from g)
  intro _
  refine cap_test _ _ _ ?_
  intro _; refine ⟨fun g => ?_, fun g => ?_⟩
  · have g := of_decide_eq_true (show decide (65 ≤ n ∧ n ≤ 90) = true from g)
    intro _
    refine ⟨?_, rfl⟩
    rw [show cl n = 2 by (unfold cl; repeat' split) <;> omega]
    rfl
  have g2 := of_decide_eq_false (show decide (65 ≤ n ∧ n ≤ 90) = false from g)
  intro _
  refine sml_test _ _ _ ?_
  intro _; refine ⟨fun g => ?_, fun g => ?_⟩
  · have g := of_decide_eq_true (show decide (97 ≤ n ∧ n ≤ 122) = true from g)
    intro _
    refine ⟨?_, rfl⟩
    rw [show cl n = 1 by (unfold cl; repeat' split) <;> omega]
    rfl
  have g1 := of_decide_eq_false (show decide (97 ≤ n ∧ n ≤ 122) = false from g)
  intro _
  refine ⟨?_, rfl⟩
  rw [show cl n = 0 by (unfold cl; repeat' split) <;> omega]
/-! texts -/
def by' (s : List UInt8) (i : Nat) : Int := ((s.getD i 0).toNat : Int)
def VA (s : List UInt8) : Prop := s.length ≤ 2000 ∧ ∀ i, i < s.length → cl (by' s i) ≠ 0
instance decVA (s : List UInt8) : Decidable (VA s) := inferInstanceAs (Decidable (_ ∧ _))
theorem ba_get {s : List UInt8} {k : Nat} (h : k < s.length) : ∃ h' : k < (ByteArray.mk s.toArray).size, (ByteArray.mk s.toArray)[k]'h' = s[k] :=
  ⟨by simpa [ByteArray.size] using h, by show s.toArray[k]'_ = s[k]; simp⟩
theorem rune_low {s : List UInt8} {k : Nat} (h : k < s.length) (hb : by' s k < 128) : rune s k = ((s.getD k 0).toNat, 1) := by
  have e : s.getD k 0 = s[k] := by rw [List.getD_eq_getElem?_getD, List.getElem?_eq_getElem h]; rfl
  unfold by' at hb
  rw [e] at hb ⊢
  obtain ⟨h', e'⟩ := ba_get h
  have := Go.decode_ascii ⟨s.toArray⟩ k h' (by rw [e']; omega)
  rw [e'] at this
  exact this
theorem rune_high {s : List UInt8} {k : Nat} (h : k < s.length) (hb : 128 ≤ by' s k) : 128 ≤ (rune s k).1 := by
  have e : s.getD k 0 = s[k] := by rw [List.getD_eq_getElem?_getD, List.getElem?_eq_getElem h]; rfl
  unfold by' at hb
  rw [e] at hb
  obtain ⟨h', e'⟩ := ba_get h
  exact (Go.decode_high ⟨s.toArray⟩ k h' (by rw [e']; omega)).1
theorem by_succ {s : List UInt8} {k : Nat} (hm : ∀ i, i < k → cl (by' s i) ≠ 0) (h : cl (by' s k) ≠ 0) : ∀ i, i < k + 1 → cl (by' s i) ≠ 0 := fun i hi => by
  by_cases e : i = k
  · subst e; exact h
  · exact hm i (by omega)
theorem rvalid_ok (s : List UInt8) (hl : s.length ≤ 9223372036854775807) : SemF Try.prog 20 [.str s] ⟨0, 0, []⟩ (fun v _ => v = .test (decide (VA s)) ∧ nameless v = true) := by
  refine SemF.test ?_
  refine enter tt_ok Try.func20 (nt := 18) (cd := body Try.f20) rfl rfl rfl rfl ?_
  intro _
  refine loop2 tt_ok [3] [] 0 (fun k : { k : Nat // k ≤ s.length ∧ ∀ i, i < k → cl (by' s i) ≠ 0 } => [(3, .int .i64 (k : Nat))]) (fun _ => []) (fun k => s.length - k) ⟨0, by omega, fun i h => by omega⟩ ?_
  intro _
  refine ⟨⟨th [] 0, rfl, rfl, rfl, rfl, rfl, rfl, ?_, ?_⟩, ?_⟩
  · (repeat' first | exact trivial | exact rfl | refine And.intro ?_ ?_)
  · (repeat' first | exact trivial | exact rfl | refine And.intro ?_ ?_)
  intro ⟨k, hk, hmk⟩
  intro _; refine ⟨fun g => ?_, fun g => ?_⟩
  rotate_left
  · have hkl := of_decide_eq_false (show decide ((k : Int) < (s.length : Int)) = false from g)
    have hkl : k = s.length := by omega
    subst hkl
    intro _
    refine ⟨_, .inr rfl, ?_, rfl⟩
    by_cases e : s.length ≤ 2000
    · rw [decide_eq_true (show (s.length : Int) ≤ 2000 by omega), decide_eq_true (show VA s from ⟨e, hmk⟩)]
    · rw [decide_eq_false (show ¬ (s.length : Int) ≤ 2000 by omega), decide_eq_false (fun h : VA s => e h.1)]
  have hkl := of_decide_eq_true (show decide ((k : Int) < (s.length : Int)) = true from g)
  intro _; refine ⟨show 0 ≤ (k : Int) ∧ (k : Int) < (s.length : Int) by omega, ?_⟩
  intro _
  refine call_pure [] (rclass_ok (by' s k)) rfl rfl rfl ?_ ?_ ?_
  · (repeat' first | exact trivial | exact rfl | refine And.intro ?_ ?_)
  · (repeat' first | exact trivial | exact rfl | refine And.intro ?_ ?_)
  intro v hv _
  subst hv
  intro _; refine ⟨fun g => ?_, fun g => ?_⟩
  · have g : (cl (by' s k) == 0) = true := g
    have g : cl (by' s k) = 0 := by simpa using g
    intro _
    exact ⟨false, .inl rfl, by rw [decide_eq_false (fun h : VA s => h.2 k (by omega) g)], rfl⟩
  have g : (cl (by' s k) == 0) = false := g
  have g : cl (by' s k) ≠ 0 := by simpa using g
  refine ⟨⟨k + 1, by omega, by_succ hmk g⟩, by simp; omega, th [] 0, rfl, rfl, rfl, rfl, rfl, rfl, ?_, ?_⟩
  · (repeat' first | exact trivial | exact rfl | refine And.intro ?_ ?_)
    exact (wrap_nat k (by omega)).symm
  · (repeat' first | exact trivial | exact rfl | refine And.intro ?_ ?_)
theorem valid_ok (s : List UInt8) (hl : s.length ≤ 9223372036854775807) : SemF Try.prog 24 [.str s] ⟨0, 0, []⟩ (fun v _ => v = .test (decide (VA s)) ∧ nameless v = true) := by
  refine SemF.test ?_
  refine enter tt_ok Try.func24 (nt := 16) (cd := body Try.f24) rfl rfl rfl rfl ?_
  intro _; refine ⟨fun g => ?_, fun g => ?_⟩
  · have g := of_decide_eq_true (show decide ((s.length : Int) > 2000) = true from g)
    intro _
    exact ⟨false, .inl rfl, by rw [decide_eq_false (fun h : VA s => by have := h.1; omega)], rfl⟩
  have g2 := of_decide_eq_false (show decide ((s.length : Int) > 2000) = false from g)
  intro _
  refine loop2 tt_ok [] [0] 1 (fun k : { k : Nat // k ≤ s.length ∧ ∀ i, i < k → cl (by' s i) ≠ 0 } => []) (fun k => [(0, .sit s (k : Nat))]) (fun k => s.length - k) ⟨0, by omega, fun i h => by omega⟩ ?_
  intro _
  refine ⟨⟨th [] 1, rfl, rfl, rfl, rfl, rfl, rfl, ?_, ?_⟩, ?_⟩
  · (repeat' first | exact trivial | exact rfl | refine And.intro ?_ ?_)
  · (repeat' first | exact trivial | exact rfl | refine And.intro ?_ ?_)
  intro ⟨k, hk, hmk⟩
  intro _; refine ⟨fun g => ?_, fun g => ?_⟩
  rotate_left
  · have hkl := of_decide_eq_false (show decide (k < s.length) = false from g)
    have hkl : k = s.length := by omega
    subst hkl
    intro _
    exact ⟨true, .inl rfl, by rw [decide_eq_true (show VA s from ⟨by omega, hmk⟩)], rfl⟩
  have hkl := of_decide_eq_true (show decide (k < s.length) = true from g)
  intro _
  refine call_pure [] (class_ok ((rune s k).1 : Int)) rfl rfl rfl ?_ ?_ ?_
  · (repeat' first | exact trivial | exact rfl | refine And.intro ?_ ?_)
  · (repeat' first | exact trivial | exact rfl | refine And.intro ?_ ?_)
  intro v hv _
  subst hv
  intro _; refine ⟨fun g => ?_, fun g => ?_⟩
  · have g : (cl ((rune s k).1 : Int) == 0) = true := g
    have g : cl ((rune s k).1 : Int) = 0 := by simpa using g
    intro _
    refine ⟨false, .inl rfl, ?_, rfl⟩
    rw [decide_eq_false (fun h : VA s => ?_)]
    refine h.2 k hkl ?_
    by_cases hb : by' s k < 128
    · rw [rune_low hkl hb] at g; exact g
    · exact cl_high (by omega)
  have g : (cl ((rune s k).1 : Int) == 0) = false := g
  have g : cl ((rune s k).1 : Int) ≠ 0 := by simpa using g
  have hb : by' s k < 128 := by
    rcases Int.lt_or_le (by' s k) 128 with h | h
    · exact h
    · exact absurd (cl_high (show (128 : Int) ≤ (rune s k).1 by have := rune_high hkl h; omega)) g
  have er := rune_low hkl hb
  refine ⟨⟨k + 1, by omega, by_succ hmk (by rw [er] at g; exact g)⟩, by simp; omega, th [] 1, rfl, rfl, rfl, rfl, rfl, rfl, ?_, ?_⟩
  · (repeat' first | exact trivial | exact rfl | refine And.intro ?_ ?_)
  · (repeat' first | exact trivial | exact rfl | refine And.intro ?_ ?_)
    show k + 1 = k + (rune s k).2
    rw [er]
theorem by_bd (s : List UInt8) (i : Nat) : 0 ≤ by' s i ∧ by' s i ≤ 255 := by
  unfold by'
  have := (s.getD i 0).toNat_lt
  omega
theorem Class_ok (n : Int) (h : 0 ≤ n ∧ n ≤ 255) : SemF Try.prog 40 [.int .u8 n] ⟨0, 0, []⟩ (fun v _ => v = .int .i64 (cl n) ∧ nameless v = true) := by
  refine enter tt_ok Try.func40 (nt := 6) (cd := body Try.f40) rfl rfl rfl rfl ?_
  intro _
  have e : IntKind.i32.wrap n = n := by
    rw [IntKind.wrap_i32]; omega
  refine call_pure [] (class_ok (IntKind.i32.wrap n)) rfl rfl rfl ?_ ?_ ?_
  · (repeat' first | exact trivial | exact rfl | refine And.intro ?_ ?_)
  · (repeat' first | exact trivial | exact rfl | refine And.intro ?_ ?_)
  intro v hv _
  subst hv
  intro _
  exact ⟨by rw [e], rfl⟩
theorem cl_nn (n : Int) : 0 ≤ cl n := by unfold cl; (repeat' split) <;> omega
theorem isdig_ok (n : Int) (h : 0 ≤ n ∧ n ≤ 255) : SemF Try.prog 33 [.int .u8 n] ⟨0, 0, []⟩ (fun v _ => v = .test (cl n == 3) ∧ nameless v = true) := by
  refine enter tt_ok Try.func33 (nt := 6) (cd := body Try.f33) rfl rfl rfl rfl ?_
  intro _
  refine call_pure [] (Class_ok n h) rfl rfl rfl ?_ ?_ ?_
  · (repeat' first | exact trivial | exact rfl | refine And.intro ?_ ?_)
  · (repeat' first | exact trivial | exact rfl | refine And.intro ?_ ?_)
  intro v hv _
  subst hv
  intro _
  exact ⟨rfl, rfl⟩
def gt (l : List Int) (i : Nat) : Int := l.getD i 0
theorem gt_set {l : List Int} {k : Nat} (h : k < l.length) (v : Int) (i : Nat) : gt (l.set k v) i = if i = k then v else gt l i := by
  unfold gt
  rw [List.getD_eq_getElem?_getD, List.getElem?_set]
  by_cases e : k = i
  · subst e; rw [if_pos rfl, if_pos h, if_pos rfl]; rfl
  · rw [if_neg e, if_neg (fun q => e q.symm), List.getD_eq_getElem?_getD]
/-- what the letters have, and all others -/
def Ba (s : List UInt8) (l : List Int) (i : Nat) : Prop := (cl (by' s i) = 1 → gt l i = 0) ∧ (cl (by' s i) = 2 → gt l i = 1) ∧ (gt l i = 0 ∨ gt l i = 1 ∨ gt l i = -1)
theorem ba_set {s : List UInt8} {l : List Int} {k : Nat} (hk : k < l.length) {v : Int} (hm : ∀ i, i < k → Ba s l i) (h1 : cl (by' s k) = 1 → v = 0) (h2 : cl (by' s k) = 2 → v = 1) (h3 : v = 0 ∨ v = 1 ∨ v = -1) : ∀ i, i < k + 1 → Ba s (l.set k v) i := fun i hi => by
  unfold Ba
  rw [gt_set hk]
  by_cases e : i = k
  · subst e; rw [if_pos rfl]; exact ⟨h1, h2, h3⟩
  · rw [if_neg e]; exact hm i (by omega)
abbrev I1 (s : List UInt8) := { p : Nat × Int × List Int // p.1 ≤ s.length ∧ (p.2.1 = 0 ∨ p.2.1 = 1) ∧ p.2.2.length = s.length ∧ ∀ i, i < p.1 → Ba s p.2.2 i }
abbrev I2 (s : List UInt8) := { p : Nat × List Int // p.1 ≤ s.length + 1 ∧ p.2.length = s.length ∧ (∀ i, i < s.length → Ba s p.2 i) ∧ ∀ i, i < p.1 → i < s.length → gt p.2 i ≠ -1 }
abbrev I3 (s : List UInt8) (l : List Int) (fr at' : Nat) := { q : Nat × List Int // fr ≤ q.1 ∧ q.1 ≤ at' ∧ q.2.length = s.length ∧ (∀ i, i < s.length → Ba s q.2 i) ∧ (∀ i, i < q.1 → i < s.length → gt q.2 i ≠ -1) ∧ (∀ i, q.1 ≤ i → i < at' → gt q.2 i = -1) ∧ ∀ j, at' ≤ j → gt q.2 j = gt l j }
theorem i3_set {s : List UInt8} {l l' : List Int} {fr at' k : Nat} {v : Int} (hfk : fr ≤ k) (hkl : (k : Int) < (at' : Int)) (hat : at' ≤ s.length) (hn : l'.length = s.length) (hm : ∀ i, i < s.length → Ba s l' i) (hz : ∀ i, i < k → i < s.length → gt l' i ≠ -1) (hrun : ∀ i, k ≤ i → i < at' → gt l' i = -1) (hrest : ∀ j, at' ≤ j → gt l' j = gt l j) (hb : v = 0 ∨ v = 1) :
    fr ≤ k + 1 ∧ k + 1 ≤ at' ∧ (l'.set k v).length = s.length ∧ (∀ i, i < s.length → Ba s (l'.set k v) i) ∧ (∀ i, i < k + 1 → i < s.length → gt (l'.set k v) i ≠ -1) ∧ (∀ i, k + 1 ≤ i → i < at' → gt (l'.set k v) i = -1) ∧ ∀ j, at' ≤ j → gt (l'.set k v) j = gt l j := by
  have hk : k < l'.length := by omega
  have hk1 := hrun k (Nat.le_refl _) (by omega)
  have hBk := hm k (by omega)
  refine ⟨by omega, by omega, by simp [hn], fun i hi => ?_, fun i hi h2 => ?_, fun i hi h2 => ?_, fun j hj => ?_⟩
  · unfold Ba
    rw [gt_set hk]
    by_cases e : i = k
    · subst e
      rw [if_pos rfl]
      refine ⟨fun h => ?_, fun h => ?_, by omega⟩
      · have := hBk.1 h; omega
      · have := hBk.2.1 h; omega
    · rw [if_neg e]; exact hm i hi
  · rw [gt_set hk]
    by_cases e : i = k
    · rw [if_pos e]; omega
    · rw [if_neg e]; exact hz i (by omega) h2
  · rw [gt_set hk, if_neg (by omega)]; exact hrun i (by omega) h2
  · rw [gt_set hk, if_neg (by omega)]; exact hrest j hj
def DQ (s : List UInt8) : V → Go.Vm2.H → Prop := fun v h' => ∃ l : List Int, l.length = s.length ∧ (∀ i, i < s.length → Ba s l i ∧ gt l i ≠ -1) ∧ v = .grw 0 l.length ∧ h' = ⟨1, 0, [(0, .arr [.int .i64] .own (.ints l))]⟩
set_option maxHeartbeats 4000000 in
theorem dirs_ok (s : List UInt8) (dir : Int) (hV : VA s) (hd : dir = 0 ∨ dir = 1) : SemF Try.prog 32 [.str s, .int .i64 dir] ⟨0, 0, []⟩ (DQ s) := by
  have hl := hV.1
  refine SemF.ret ?_
  refine enter tt_ok Try.func32 (nt := 89) (cd := body Try.f32) rfl rfl rfl rfl ?_
  intro _; refine ⟨⟨by omega, by omega, by rw [Int.toNat_natCast]; omega⟩, ?_⟩
  intro _; refine ⟨rfl, ?_⟩
  intro _
  refine loop2 tt_ok [20, 6] [1] 3 (fun k : I1 s => [(20, .int .i64 (k.1.1 : Nat)), (6, .int .i64 k.1.2.1)]) (fun k => [(1, .arr [.int .i64] .own (.ints k.1.2.2))]) (fun k => s.length - k.1.1) ⟨(0, dir, List.replicate s.length 0), by omega, hd, by simp, fun i h => by omega⟩ ?_
  intro _
  refine ⟨⟨th [] 3, rfl, rfl, rfl, rfl, rfl, rfl, ?_, ?_⟩, ?_⟩
  · (repeat' first | exact trivial | exact rfl | refine And.intro ?_ ?_)
  · (repeat' first | exact trivial | exact rfl | refine And.intro ?_ ?_)
  intro ⟨⟨k, lt, l⟩, hk, hlt, hn, hm⟩
  simp only [] at hk hlt hn hm
  intro _; refine ⟨fun g => ?_, fun g => ?_⟩
  · have hkl := of_decide_eq_true (show decide ((k : Int) < (s.length : Int)) = true from g)
    intro _; refine ⟨show 0 ≤ (k : Int) ∧ (k : Int) < (s.length : Int) by omega, ?_⟩
    intro _
    refine call_pure [] (Class_ok (by' s k) (by_bd s k)) rfl rfl rfl ?_ ?_ ?_
    · (repeat' first | exact trivial | exact rfl | refine And.intro ?_ ?_)
    · (repeat' first | exact trivial | exact rfl | refine And.intro ?_ ?_)
    intro v hv _
    subst hv
    intro _; refine ⟨fun g => ?_, fun g => ?_⟩
    · have g : (cl (by' s k) == 1) = true := g
      have g1 : cl (by' s k) = 1 := by simpa using g
      have hw : IntKind.i64.wrap (cl (by' s k) - 1) = 0 ∨ IntKind.i64.wrap (cl (by' s k) - 1) = 1 := .inl (by rw [g1]; rfl)
      intro _; refine ⟨show 0 ≤ (k : Int) ∧ (k : Int) < (s.length : Int) by omega, ?_⟩
      intro _; refine ⟨show (k : Int).toNat < l.length by omega, ?_⟩
      refine ⟨⟨(k + 1, IntKind.i64.wrap (cl (by' s k) - 1), l.set k (IntKind.i64.wrap (cl (by' s k) - 1))), by simp only []; omega, hw, by simp [hn], ba_set (by omega) hm (fun h => by rw [h]; rfl) (fun h => by rw [h]; rfl) (by rcases hw with h | h; exact .inl h; exact .inr (.inl h))⟩, by simp only []; omega, th [] 3, rfl, rfl, rfl, rfl, rfl, rfl, ?_, ?_⟩
      · (repeat' first | exact trivial | exact rfl | refine And.intro ?_ ?_)
        exact (wrap_nat k (by omega)).symm
      · (repeat' first | exact trivial | exact rfl | refine And.intro ?_ ?_)
    have g : (cl (by' s k) == 1) = false := g
    have g1 : ¬ cl (by' s k) = 1 := by simpa using g
    intro _; refine ⟨fun g => ?_, fun g => ?_⟩
    · have g : (cl (by' s k) == 2) = true := g
      have g2 : cl (by' s k) = 2 := by simpa using g
      have hw : IntKind.i64.wrap (cl (by' s k) - 1) = 0 ∨ IntKind.i64.wrap (cl (by' s k) - 1) = 1 := .inr (by rw [g2]; rfl)
      intro _; refine ⟨show 0 ≤ (k : Int) ∧ (k : Int) < (s.length : Int) by omega, ?_⟩
      intro _; refine ⟨show (k : Int).toNat < l.length by omega, ?_⟩
      refine ⟨⟨(k + 1, IntKind.i64.wrap (cl (by' s k) - 1), l.set k (IntKind.i64.wrap (cl (by' s k) - 1))), by simp only []; omega, hw, by simp [hn], ba_set (by omega) hm (fun h => by rw [h]; rfl) (fun h => by rw [h]; rfl) (by rcases hw with h | h; exact .inl h; exact .inr (.inl h))⟩, by simp only []; omega, th [] 3, rfl, rfl, rfl, rfl, rfl, rfl, ?_, ?_⟩
      · (repeat' first | exact trivial | exact rfl | refine And.intro ?_ ?_)
        exact (wrap_nat k (by omega)).symm
      · (repeat' first | exact trivial | exact rfl | refine And.intro ?_ ?_)
    have g : (cl (by' s k) == 2) = false := g
    have g2 : ¬ cl (by' s k) = 2 := by simpa using g
    intro _; refine ⟨show 0 ≤ (k : Int) ∧ (k : Int) < (s.length : Int) by omega, ?_⟩
    intro _
    refine call_pure [] (isdig_ok (by' s k) (by_bd s k)) rfl rfl rfl ?_ ?_ ?_
    · (repeat' first | exact trivial | exact rfl | refine And.intro ?_ ?_)
    · (repeat' first | exact trivial | exact rfl | refine And.intro ?_ ?_)
    intro v hv _
    subst hv
    intro _; refine ⟨fun g => ?_, fun g => ?_⟩
    · skip
      intro _; refine ⟨show 0 ≤ (k : Int) ∧ (k : Int) < (s.length : Int) by omega, ?_⟩
      intro _; refine ⟨show (k : Int).toNat < l.length by omega, ?_⟩
      refine ⟨⟨(k + 1, lt, l.set k (lt)), by simp only []; omega, hlt, by simp [hn], ba_set (by omega) hm (fun h => absurd h g1) (fun h => absurd h g2) (by rcases hlt with h | h; exact .inl h; exact .inr (.inl h))⟩, by simp only []; omega, th [] 3, rfl, rfl, rfl, rfl, rfl, rfl, ?_, ?_⟩
      · (repeat' first | exact trivial | exact rfl | refine And.intro ?_ ?_)
        exact (wrap_nat k (by omega)).symm
      · (repeat' first | exact trivial | exact rfl | refine And.intro ?_ ?_)
    · skip
      intro _; refine ⟨show 0 ≤ (k : Int) ∧ (k : Int) < (s.length : Int) by omega, ?_⟩
      intro _; refine ⟨show (k : Int).toNat < l.length by omega, ?_⟩
      refine ⟨⟨(k + 1, lt, l.set k (-1)), by simp only []; omega, hlt, by simp [hn], ba_set (by omega) hm (fun h => absurd h g1) (fun h => absurd h g2) (.inr (.inr rfl))⟩, by simp only []; omega, th [] 3, rfl, rfl, rfl, rfl, rfl, rfl, ?_, ?_⟩
      · (repeat' first | exact trivial | exact rfl | refine And.intro ?_ ?_)
        exact (wrap_nat k (by omega)).symm
      · (repeat' first | exact trivial | exact rfl | refine And.intro ?_ ?_)
  have hkl := of_decide_eq_false (show decide ((k : Int) < (s.length : Int)) = false from g)
  have hkl : k = s.length := by omega
  subst hkl
  intro _
  refine enter tt_ok Try.func27 (nt := 6) (cd := body Try.f27) rfl rfl rfl rfl ?_
  intro _
  intro _
  refine range_ok ?_
  intro _
  refine enter tt_ok Try.func35 (nt := 37) (cd := body Try.f35) rfl rfl rfl rfl ?_
  intro _
  refine loop2 tt_ok [4] [1] 7 (fun p : I2 s => [(4, .int .i64 (p.1.1 : Nat))]) (fun p => [(1, .arr [.int .i64] .own (.ints p.1.2))]) (fun p => s.length + 1 - p.1.1) ⟨(0, l), by simp only []; omega, hn, hm, fun i h1 h2 => by simp only [] at h1; omega⟩ ?_
  intro _
  refine ⟨⟨th [] 7, rfl, rfl, rfl, rfl, rfl, rfl, ?_, ?_⟩, ?_⟩
  · (repeat' first | exact trivial | exact rfl | refine And.intro ?_ ?_)
  · (repeat' first | exact trivial | exact rfl | refine And.intro ?_ ?_)
  intro ⟨⟨fr, l⟩, hfr, hn, hm, hz⟩
  simp only [] at hfr hn hm hz
  intro _; refine ⟨fun g => ?_, fun g => ?_⟩
  rotate_left
  · have hfl := of_decide_eq_false (show decide ((fr : Int) < (s.length : Int)) = false from g)
    intro _
    intro _
    refine ⟨[(0, some 1)], .grw 0 l.length, ⟨1, 0, [(0, .arr [.int .i64] .own (.ints l))]⟩, rfl, rfl, rfl, rfl, ?_, ?_, ⟨l, hn, fun i hi => ⟨hm i hi, hz i (by omega) hi⟩, rfl, rfl⟩⟩
    · (repeat' first | exact trivial | exact rfl | refine And.intro ?_ ?_)
      exact hn
    · (repeat' first | exact trivial | exact rfl | refine And.intro ?_ ?_)
  have hfl := of_decide_eq_true (show decide ((fr : Int) < (s.length : Int)) = true from g)
  intro _
  refine loop2 tt_ok [4] [] 7 (fun q : { q : Nat // fr ≤ q ∧ q ≤ s.length ∧ ∀ i, fr ≤ i → i < q → gt l i = -1 } => [(4, .int .i64 (q.1 : Nat))]) (fun _ => []) (fun q => s.length - q.1) ⟨fr, Nat.le_refl _, by omega, fun i h1 h2 => by omega⟩ ?_
  intro _
  refine ⟨⟨th [] 7, rfl, rfl, rfl, rfl, rfl, rfl, ?_, ?_⟩, ?_⟩
  · (repeat' first | exact trivial | exact rfl | refine And.intro ?_ ?_)
  · (repeat' first | exact trivial | exact rfl | refine And.intro ?_ ?_)
  intro ⟨at', h1, h2, hrun⟩
  intro _; refine ⟨fun g => ?_, fun g => ?_⟩
  · have hal := of_decide_eq_true (show decide ((at' : Int) < (s.length : Int)) = true from g)
    intro _; refine ⟨show 0 ≤ (at' : Int) ∧ (at' : Int) < (s.length : Int) by omega, ?_⟩
    intro _; refine ⟨show (at' : Int).toNat < l.length by omega, ?_⟩
    intro _
    refine Or.inl ?_
    intro _
    refine enter tt_ok Try.func41 (nt := 5) (cd := body Try.f41) rfl rfl rfl rfl ?_
    intro _
    intro _; refine ⟨by kernel_rfl, ?_⟩
    intro _; refine ⟨fun g => ?_, fun g => ?_⟩
    rotate_left
    · have g : (l.getD (at' : Int).toNat 0 == -1) = false := g
      have gn : ¬ gt l at' = -1 := by simpa [gt] using g
      have hstop : at' < s.length → gt l at' ≠ -1 := fun _ => gn
      intro _; refine ⟨fun g => ?_, fun g => ?_⟩
      rotate_left
      · have hal2 := of_decide_eq_false (show decide ((at' : Int) > (fr : Int)) = false from g)
        have he : at' = fr := by omega
        refine ⟨⟨(at' + 1, l), by simp only []; omega, hn, hm, fun i h3 h4 => ?_⟩, by simp only []; omega, th [] 7, rfl, rfl, rfl, rfl, rfl, rfl, ?_, ?_⟩
        · simp only [] at h3
          by_cases e : i = at'
          · rw [e]; exact hstop (by omega)
          · exact hz i (by omega) h4
        · (repeat' first | exact trivial | exact rfl | refine And.intro ?_ ?_)
          exact (wrap_nat at' (by omega)).symm
        · (repeat' first | exact trivial | exact rfl | refine And.intro ?_ ?_)
      have hgt := of_decide_eq_true (show decide ((at' : Int) > (fr : Int)) = true from g)
      have hat : at' ≤ s.length := h2
      intro _
      refine yield_ok tt_ok ?_
      intro _; refine ⟨by kernel_rfl, ?_⟩
      have eF : 0 < fr → IntKind.i64.wrap ((fr : Int) - 1) = ((fr - 1 : Nat) : Int) := fun h => by rw [wrapS _ ⟨by omega, by omega⟩]; omega
      intro _; refine ⟨fun g => ?_, fun g => ?_⟩
      · have hf0 := of_decide_eq_true (show decide ((fr : Int) > 0) = true from g)
        have eF := eF (by omega)
        have hp1 := hz (fr - 1) (by omega) (by omega)
        have hp2 := (hm (fr - 1) (by omega)).2.2
        intro _; refine ⟨show 0 ≤ IntKind.i64.wrap ((fr : Int) - 1) ∧ IntKind.i64.wrap ((fr : Int) - 1) < (s.length : Int) by rw [eF]; omega, ?_⟩
        intro _; refine ⟨show (IntKind.i64.wrap ((fr : Int) - 1)).toNat < l.length by rw [eF]; omega, ?_⟩
        intro _; refine ⟨fun g => ?_, fun g => ?_⟩
        · have hal3 := of_decide_eq_true (show decide ((at' : Int) < (s.length : Int)) = true from g)
          intro _; refine ⟨show 0 ≤ (at' : Int) ∧ (at' : Int) < (s.length : Int) by omega, ?_⟩
          intro _; refine ⟨show (at' : Int).toNat < l.length by omega, ?_⟩
          intro _; refine ⟨fun g => ?_, fun g => ?_⟩
          · skip
            have hb : dir = 0 ∨ dir = 1 := hd
            intro _
            refine loop2 tt_ok [13, 11] [1] 7 (fun q : I3 s l fr at' => [(13, .int .i64 (q.1.1 : Nat)), (11, .int .i64 (dir))]) (fun q => [(1, .arr [.int .i64] .own (.ints q.1.2))]) (fun q => at' - q.1.1) ⟨(fr, l), Nat.le_refl _, by simp only []; omega, hn, hm, hz, hrun, fun j hj => rfl⟩ ?_
            intro _
            refine ⟨⟨th [] 7, rfl, rfl, rfl, rfl, rfl, rfl, ?_, ?_⟩, ?_⟩
            · (repeat' first | exact trivial | exact rfl | refine And.intro ?_ ?_)
            · (repeat' first | exact trivial | exact rfl | refine And.intro ?_ ?_)
            intro ⟨⟨k, l'⟩, hfk, hka, hn', hm', hz', hrun', hrest'⟩
            simp only [] at hfk hka hn' hm' hz' hrun' hrest'
            intro _; refine ⟨fun g => ?_, fun g => ?_⟩
            · have hkl := of_decide_eq_true (show decide ((k : Int) < (at' : Int)) = true from g)
              intro _; refine ⟨show 0 ≤ (k : Int) ∧ (k : Int) < (s.length : Int) by omega, ?_⟩
              intro _; refine ⟨show (k : Int).toNat < l'.length by omega, ?_⟩
              refine ⟨⟨(k + 1, l'.set k (dir)), ?_⟩, by simp only []; omega, th [] 7, rfl, rfl, rfl, rfl, rfl, rfl, ?_, ?_⟩
              · exact i3_set hfk hkl hat hn' hm' hz' hrun' hrest' hb
              · (repeat' first | exact trivial | exact rfl | refine And.intro ?_ ?_)
                exact (wrap_nat k (by omega)).symm
              · (repeat' first | exact trivial | exact rfl | refine And.intro ?_ ?_)
            have hkl := of_decide_eq_false (show decide ((k : Int) < (at' : Int)) = false from g)
            have hkl : k = at' := by omega
            intro _
            refine ⟨⟨(at' + 1, l'), by simp only []; omega, hn', hm', fun i h3 h4 => ?_⟩, by simp only []; omega, th [] 7, rfl, rfl, rfl, rfl, rfl, rfl, ?_, ?_⟩
            · simp only [] at h3
              by_cases e : i = at'
              · rw [e, hrest' at' (Nat.le_refl _)]; exact hstop (by omega)
              · exact hz' i (by omega) h4
            · (repeat' first | exact trivial | exact rfl | refine And.intro ?_ ?_)
              exact (wrap_nat at' (by omega)).symm
            · (repeat' first | exact trivial | exact rfl | refine And.intro ?_ ?_)
          have hb : gt l (fr - 1) = 0 ∨ gt l (fr - 1) = 1 := by omega
          intro _
          refine loop2 tt_ok [13, 11] [1] 7 (fun q : I3 s l fr at' => [(13, .int .i64 (q.1.1 : Nat)), (11, .int .i64 (gt l (fr - 1)))]) (fun q => [(1, .arr [.int .i64] .own (.ints q.1.2))]) (fun q => at' - q.1.1) ⟨(fr, l), Nat.le_refl _, by simp only []; omega, hn, hm, hz, hrun, fun j hj => rfl⟩ ?_
          intro _
          refine ⟨⟨th [] 7, rfl, rfl, rfl, rfl, rfl, rfl, ?_, ?_⟩, ?_⟩
          · (repeat' first | exact trivial | exact rfl | refine And.intro ?_ ?_)
            show gt l (fr - 1) = l.getD (IntKind.i64.wrap ((fr : Int) - 1)).toNat 0; rw [eF]; rfl
          · (repeat' first | exact trivial | exact rfl | refine And.intro ?_ ?_)
          intro ⟨⟨k, l'⟩, hfk, hka, hn', hm', hz', hrun', hrest'⟩
          simp only [] at hfk hka hn' hm' hz' hrun' hrest'
          intro _; refine ⟨fun g => ?_, fun g => ?_⟩
          · have hkl := of_decide_eq_true (show decide ((k : Int) < (at' : Int)) = true from g)
            intro _; refine ⟨show 0 ≤ (k : Int) ∧ (k : Int) < (s.length : Int) by omega, ?_⟩
            intro _; refine ⟨show (k : Int).toNat < l'.length by omega, ?_⟩
            refine ⟨⟨(k + 1, l'.set k (gt l (fr - 1))), ?_⟩, by simp only []; omega, th [] 7, rfl, rfl, rfl, rfl, rfl, rfl, ?_, ?_⟩
            · exact i3_set hfk hkl hat hn' hm' hz' hrun' hrest' hb
            · (repeat' first | exact trivial | exact rfl | refine And.intro ?_ ?_)
              exact (wrap_nat k (by omega)).symm
            · (repeat' first | exact trivial | exact rfl | refine And.intro ?_ ?_)
          have hkl := of_decide_eq_false (show decide ((k : Int) < (at' : Int)) = false from g)
          have hkl : k = at' := by omega
          intro _
          refine ⟨⟨(at' + 1, l'), by simp only []; omega, hn', hm', fun i h3 h4 => ?_⟩, by simp only []; omega, th [] 7, rfl, rfl, rfl, rfl, rfl, rfl, ?_, ?_⟩
          · simp only [] at h3
            by_cases e : i = at'
            · rw [e, hrest' at' (Nat.le_refl _)]; exact hstop (by omega)
            · exact hz' i (by omega) h4
          · (repeat' first | exact trivial | exact rfl | refine And.intro ?_ ?_)
            exact (wrap_nat at' (by omega)).symm
          · (repeat' first | exact trivial | exact rfl | refine And.intro ?_ ?_)
        intro _; refine ⟨fun g => ?_, fun g => ?_⟩
        · skip
          have hb : dir = 0 ∨ dir = 1 := hd
          intro _
          refine loop2 tt_ok [13, 11] [1] 7 (fun q : I3 s l fr at' => [(13, .int .i64 (q.1.1 : Nat)), (11, .int .i64 (dir))]) (fun q => [(1, .arr [.int .i64] .own (.ints q.1.2))]) (fun q => at' - q.1.1) ⟨(fr, l), Nat.le_refl _, by simp only []; omega, hn, hm, hz, hrun, fun j hj => rfl⟩ ?_
          intro _
          refine ⟨⟨th [] 7, rfl, rfl, rfl, rfl, rfl, rfl, ?_, ?_⟩, ?_⟩
          · (repeat' first | exact trivial | exact rfl | refine And.intro ?_ ?_)
          · (repeat' first | exact trivial | exact rfl | refine And.intro ?_ ?_)
          intro ⟨⟨k, l'⟩, hfk, hka, hn', hm', hz', hrun', hrest'⟩
          simp only [] at hfk hka hn' hm' hz' hrun' hrest'
          intro _; refine ⟨fun g => ?_, fun g => ?_⟩
          · have hkl := of_decide_eq_true (show decide ((k : Int) < (at' : Int)) = true from g)
            intro _; refine ⟨show 0 ≤ (k : Int) ∧ (k : Int) < (s.length : Int) by omega, ?_⟩
            intro _; refine ⟨show (k : Int).toNat < l'.length by omega, ?_⟩
            refine ⟨⟨(k + 1, l'.set k (dir)), ?_⟩, by simp only []; omega, th [] 7, rfl, rfl, rfl, rfl, rfl, rfl, ?_, ?_⟩
            · exact i3_set hfk hkl hat hn' hm' hz' hrun' hrest' hb
            · (repeat' first | exact trivial | exact rfl | refine And.intro ?_ ?_)
              exact (wrap_nat k (by omega)).symm
            · (repeat' first | exact trivial | exact rfl | refine And.intro ?_ ?_)
          have hkl := of_decide_eq_false (show decide ((k : Int) < (at' : Int)) = false from g)
          have hkl : k = at' := by omega
          intro _
          refine ⟨⟨(at' + 1, l'), by simp only []; omega, hn', hm', fun i h3 h4 => ?_⟩, by simp only []; omega, th [] 7, rfl, rfl, rfl, rfl, rfl, rfl, ?_, ?_⟩
          · simp only [] at h3
            by_cases e : i = at'
            · rw [e, hrest' at' (Nat.le_refl _)]; exact hstop (by omega)
            · exact hz' i (by omega) h4
          · (repeat' first | exact trivial | exact rfl | refine And.intro ?_ ?_)
            exact (wrap_nat at' (by omega)).symm
          · (repeat' first | exact trivial | exact rfl | refine And.intro ?_ ?_)
        have hb : gt l (fr - 1) = 0 ∨ gt l (fr - 1) = 1 := by omega
        intro _
        refine loop2 tt_ok [13, 11] [1] 7 (fun q : I3 s l fr at' => [(13, .int .i64 (q.1.1 : Nat)), (11, .int .i64 (gt l (fr - 1)))]) (fun q => [(1, .arr [.int .i64] .own (.ints q.1.2))]) (fun q => at' - q.1.1) ⟨(fr, l), Nat.le_refl _, by simp only []; omega, hn, hm, hz, hrun, fun j hj => rfl⟩ ?_
        intro _
        refine ⟨⟨th [] 7, rfl, rfl, rfl, rfl, rfl, rfl, ?_, ?_⟩, ?_⟩
        · (repeat' first | exact trivial | exact rfl | refine And.intro ?_ ?_)
          show gt l (fr - 1) = l.getD (IntKind.i64.wrap ((fr : Int) - 1)).toNat 0; rw [eF]; rfl
        · (repeat' first | exact trivial | exact rfl | refine And.intro ?_ ?_)
        intro ⟨⟨k, l'⟩, hfk, hka, hn', hm', hz', hrun', hrest'⟩
        simp only [] at hfk hka hn' hm' hz' hrun' hrest'
        intro _; refine ⟨fun g => ?_, fun g => ?_⟩
        · have hkl := of_decide_eq_true (show decide ((k : Int) < (at' : Int)) = true from g)
          intro _; refine ⟨show 0 ≤ (k : Int) ∧ (k : Int) < (s.length : Int) by omega, ?_⟩
          intro _; refine ⟨show (k : Int).toNat < l'.length by omega, ?_⟩
          refine ⟨⟨(k + 1, l'.set k (gt l (fr - 1))), ?_⟩, by simp only []; omega, th [] 7, rfl, rfl, rfl, rfl, rfl, rfl, ?_, ?_⟩
          · exact i3_set hfk hkl hat hn' hm' hz' hrun' hrest' hb
          · (repeat' first | exact trivial | exact rfl | refine And.intro ?_ ?_)
            exact (wrap_nat k (by omega)).symm
          · (repeat' first | exact trivial | exact rfl | refine And.intro ?_ ?_)
        have hkl := of_decide_eq_false (show decide ((k : Int) < (at' : Int)) = false from g)
        have hkl : k = at' := by omega
        intro _
        refine ⟨⟨(at' + 1, l'), by simp only []; omega, hn', hm', fun i h3 h4 => ?_⟩, by simp only []; omega, th [] 7, rfl, rfl, rfl, rfl, rfl, rfl, ?_, ?_⟩
        · simp only [] at h3
          by_cases e : i = at'
          · rw [e, hrest' at' (Nat.le_refl _)]; exact hstop (by omega)
          · exact hz' i (by omega) h4
        · (repeat' first | exact trivial | exact rfl | refine And.intro ?_ ?_)
          exact (wrap_nat at' (by omega)).symm
        · (repeat' first | exact trivial | exact rfl | refine And.intro ?_ ?_)
      intro _; refine ⟨fun g => ?_, fun g => ?_⟩
      · have hal3 := of_decide_eq_true (show decide ((at' : Int) < (s.length : Int)) = true from g)
        intro _; refine ⟨show 0 ≤ (at' : Int) ∧ (at' : Int) < (s.length : Int) by omega, ?_⟩
        intro _; refine ⟨show (at' : Int).toNat < l.length by omega, ?_⟩
        intro _; refine ⟨fun g => ?_, fun g => ?_⟩
        · skip
          have hb : dir = 0 ∨ dir = 1 := hd
          intro _
          refine loop2 tt_ok [13, 11] [1] 7 (fun q : I3 s l fr at' => [(13, .int .i64 (q.1.1 : Nat)), (11, .int .i64 (dir))]) (fun q => [(1, .arr [.int .i64] .own (.ints q.1.2))]) (fun q => at' - q.1.1) ⟨(fr, l), Nat.le_refl _, by simp only []; omega, hn, hm, hz, hrun, fun j hj => rfl⟩ ?_
          intro _
          refine ⟨⟨th [] 7, rfl, rfl, rfl, rfl, rfl, rfl, ?_, ?_⟩, ?_⟩
          · (repeat' first | exact trivial | exact rfl | refine And.intro ?_ ?_)
          · (repeat' first | exact trivial | exact rfl | refine And.intro ?_ ?_)
          intro ⟨⟨k, l'⟩, hfk, hka, hn', hm', hz', hrun', hrest'⟩
          simp only [] at hfk hka hn' hm' hz' hrun' hrest'
          intro _; refine ⟨fun g => ?_, fun g => ?_⟩
          · have hkl := of_decide_eq_true (show decide ((k : Int) < (at' : Int)) = true from g)
            intro _; refine ⟨show 0 ≤ (k : Int) ∧ (k : Int) < (s.length : Int) by omega, ?_⟩
            intro _; refine ⟨show (k : Int).toNat < l'.length by omega, ?_⟩
            refine ⟨⟨(k + 1, l'.set k (dir)), ?_⟩, by simp only []; omega, th [] 7, rfl, rfl, rfl, rfl, rfl, rfl, ?_, ?_⟩
            · exact i3_set hfk hkl hat hn' hm' hz' hrun' hrest' hb
            · (repeat' first | exact trivial | exact rfl | refine And.intro ?_ ?_)
              exact (wrap_nat k (by omega)).symm
            · (repeat' first | exact trivial | exact rfl | refine And.intro ?_ ?_)
          have hkl := of_decide_eq_false (show decide ((k : Int) < (at' : Int)) = false from g)
          have hkl : k = at' := by omega
          intro _
          refine ⟨⟨(at' + 1, l'), by simp only []; omega, hn', hm', fun i h3 h4 => ?_⟩, by simp only []; omega, th [] 7, rfl, rfl, rfl, rfl, rfl, rfl, ?_, ?_⟩
          · simp only [] at h3
            by_cases e : i = at'
            · rw [e, hrest' at' (Nat.le_refl _)]; exact hstop (by omega)
            · exact hz' i (by omega) h4
          · (repeat' first | exact trivial | exact rfl | refine And.intro ?_ ?_)
            exact (wrap_nat at' (by omega)).symm
          · (repeat' first | exact trivial | exact rfl | refine And.intro ?_ ?_)
        have hb : dir = 0 ∨ dir = 1 := hd
        intro _
        refine loop2 tt_ok [13, 11] [1] 7 (fun q : I3 s l fr at' => [(13, .int .i64 (q.1.1 : Nat)), (11, .int .i64 (dir))]) (fun q => [(1, .arr [.int .i64] .own (.ints q.1.2))]) (fun q => at' - q.1.1) ⟨(fr, l), Nat.le_refl _, by simp only []; omega, hn, hm, hz, hrun, fun j hj => rfl⟩ ?_
        intro _
        refine ⟨⟨th [] 7, rfl, rfl, rfl, rfl, rfl, rfl, ?_, ?_⟩, ?_⟩
        · (repeat' first | exact trivial | exact rfl | refine And.intro ?_ ?_)
        · (repeat' first | exact trivial | exact rfl | refine And.intro ?_ ?_)
        intro ⟨⟨k, l'⟩, hfk, hka, hn', hm', hz', hrun', hrest'⟩
        simp only [] at hfk hka hn' hm' hz' hrun' hrest'
        intro _; refine ⟨fun g => ?_, fun g => ?_⟩
        · have hkl := of_decide_eq_true (show decide ((k : Int) < (at' : Int)) = true from g)
          intro _; refine ⟨show 0 ≤ (k : Int) ∧ (k : Int) < (s.length : Int) by omega, ?_⟩
          intro _; refine ⟨show (k : Int).toNat < l'.length by omega, ?_⟩
          refine ⟨⟨(k + 1, l'.set k (dir)), ?_⟩, by simp only []; omega, th [] 7, rfl, rfl, rfl, rfl, rfl, rfl, ?_, ?_⟩
          · exact i3_set hfk hkl hat hn' hm' hz' hrun' hrest' hb
          · (repeat' first | exact trivial | exact rfl | refine And.intro ?_ ?_)
            exact (wrap_nat k (by omega)).symm
          · (repeat' first | exact trivial | exact rfl | refine And.intro ?_ ?_)
        have hkl := of_decide_eq_false (show decide ((k : Int) < (at' : Int)) = false from g)
        have hkl : k = at' := by omega
        intro _
        refine ⟨⟨(at' + 1, l'), by simp only []; omega, hn', hm', fun i h3 h4 => ?_⟩, by simp only []; omega, th [] 7, rfl, rfl, rfl, rfl, rfl, rfl, ?_, ?_⟩
        · simp only [] at h3
          by_cases e : i = at'
          · rw [e, hrest' at' (Nat.le_refl _)]; exact hstop (by omega)
          · exact hz' i (by omega) h4
        · (repeat' first | exact trivial | exact rfl | refine And.intro ?_ ?_)
          exact (wrap_nat at' (by omega)).symm
        · (repeat' first | exact trivial | exact rfl | refine And.intro ?_ ?_)
      intro _; refine ⟨fun g => ?_, fun g => ?_⟩
      · skip
        have hb : dir = 0 ∨ dir = 1 := hd
        intro _
        refine loop2 tt_ok [13, 11] [1] 7 (fun q : I3 s l fr at' => [(13, .int .i64 (q.1.1 : Nat)), (11, .int .i64 (dir))]) (fun q => [(1, .arr [.int .i64] .own (.ints q.1.2))]) (fun q => at' - q.1.1) ⟨(fr, l), Nat.le_refl _, by simp only []; omega, hn, hm, hz, hrun, fun j hj => rfl⟩ ?_
        intro _
        refine ⟨⟨th [] 7, rfl, rfl, rfl, rfl, rfl, rfl, ?_, ?_⟩, ?_⟩
        · (repeat' first | exact trivial | exact rfl | refine And.intro ?_ ?_)
        · (repeat' first | exact trivial | exact rfl | refine And.intro ?_ ?_)
        intro ⟨⟨k, l'⟩, hfk, hka, hn', hm', hz', hrun', hrest'⟩
        simp only [] at hfk hka hn' hm' hz' hrun' hrest'
        intro _; refine ⟨fun g => ?_, fun g => ?_⟩
        · have hkl := of_decide_eq_true (show decide ((k : Int) < (at' : Int)) = true from g)
          intro _; refine ⟨show 0 ≤ (k : Int) ∧ (k : Int) < (s.length : Int) by omega, ?_⟩
          intro _; refine ⟨show (k : Int).toNat < l'.length by omega, ?_⟩
          refine ⟨⟨(k + 1, l'.set k (dir)), ?_⟩, by simp only []; omega, th [] 7, rfl, rfl, rfl, rfl, rfl, rfl, ?_, ?_⟩
          · exact i3_set hfk hkl hat hn' hm' hz' hrun' hrest' hb
          · (repeat' first | exact trivial | exact rfl | refine And.intro ?_ ?_)
            exact (wrap_nat k (by omega)).symm
          · (repeat' first | exact trivial | exact rfl | refine And.intro ?_ ?_)
        have hkl := of_decide_eq_false (show decide ((k : Int) < (at' : Int)) = false from g)
        have hkl : k = at' := by omega
        intro _
        refine ⟨⟨(at' + 1, l'), by simp only []; omega, hn', hm', fun i h3 h4 => ?_⟩, by simp only []; omega, th [] 7, rfl, rfl, rfl, rfl, rfl, rfl, ?_, ?_⟩
        · simp only [] at h3
          by_cases e : i = at'
          · rw [e, hrest' at' (Nat.le_refl _)]; exact hstop (by omega)
          · exact hz' i (by omega) h4
        · (repeat' first | exact trivial | exact rfl | refine And.intro ?_ ?_)
          exact (wrap_nat at' (by omega)).symm
        · (repeat' first | exact trivial | exact rfl | refine And.intro ?_ ?_)
      have hb : dir = 0 ∨ dir = 1 := hd
      intro _
      refine loop2 tt_ok [13, 11] [1] 7 (fun q : I3 s l fr at' => [(13, .int .i64 (q.1.1 : Nat)), (11, .int .i64 (dir))]) (fun q => [(1, .arr [.int .i64] .own (.ints q.1.2))]) (fun q => at' - q.1.1) ⟨(fr, l), Nat.le_refl _, by simp only []; omega, hn, hm, hz, hrun, fun j hj => rfl⟩ ?_
      intro _
      refine ⟨⟨th [] 7, rfl, rfl, rfl, rfl, rfl, rfl, ?_, ?_⟩, ?_⟩
      · (repeat' first | exact trivial | exact rfl | refine And.intro ?_ ?_)
      · (repeat' first | exact trivial | exact rfl | refine And.intro ?_ ?_)
      intro ⟨⟨k, l'⟩, hfk, hka, hn', hm', hz', hrun', hrest'⟩
      simp only [] at hfk hka hn' hm' hz' hrun' hrest'
      intro _; refine ⟨fun g => ?_, fun g => ?_⟩
      · have hkl := of_decide_eq_true (show decide ((k : Int) < (at' : Int)) = true from g)
        intro _; refine ⟨show 0 ≤ (k : Int) ∧ (k : Int) < (s.length : Int) by omega, ?_⟩
        intro _; refine ⟨show (k : Int).toNat < l'.length by omega, ?_⟩
        refine ⟨⟨(k + 1, l'.set k (dir)), ?_⟩, by simp only []; omega, th [] 7, rfl, rfl, rfl, rfl, rfl, rfl, ?_, ?_⟩
        · exact i3_set hfk hkl hat hn' hm' hz' hrun' hrest' hb
        · (repeat' first | exact trivial | exact rfl | refine And.intro ?_ ?_)
          exact (wrap_nat k (by omega)).symm
        · (repeat' first | exact trivial | exact rfl | refine And.intro ?_ ?_)
      have hkl := of_decide_eq_false (show decide ((k : Int) < (at' : Int)) = false from g)
      have hkl : k = at' := by omega
      intro _
      refine ⟨⟨(at' + 1, l'), by simp only []; omega, hn', hm', fun i h3 h4 => ?_⟩, by simp only []; omega, th [] 7, rfl, rfl, rfl, rfl, rfl, rfl, ?_, ?_⟩
      · simp only [] at h3
        by_cases e : i = at'
        · rw [e, hrest' at' (Nat.le_refl _)]; exact hstop (by omega)
        · exact hz' i (by omega) h4
      · (repeat' first | exact trivial | exact rfl | refine And.intro ?_ ?_)
        exact (wrap_nat at' (by omega)).symm
      · (repeat' first | exact trivial | exact rfl | refine And.intro ?_ ?_)
    have g : (l.getD (at' : Int).toNat 0 == -1) = true := g
    have gn : gt l at' = -1 := by simpa [gt] using g
    refine ⟨⟨at' + 1, by omega, by omega, fun i h3 h4 => ?_⟩, by simp only []; omega, th [] 7, rfl, rfl, rfl, rfl, rfl, rfl, ?_, ?_⟩
    · by_cases e : i = at'
      · rw [e]; exact gn
      · exact hrun i h3 (by omega)
    · (repeat' first | exact trivial | exact rfl | refine And.intro ?_ ?_)
      exact (wrap_nat at' (by omega)).symm
    · (repeat' first | exact trivial | exact rfl | refine And.intro ?_ ?_)
  have hal := of_decide_eq_false (show decide ((at' : Int) < (s.length : Int)) = false from g)
  intro _; refine ⟨by kernel_rfl, ?_⟩
  have hstop : at' < s.length → gt l at' ≠ -1 := fun h => by omega
  intro _; refine ⟨fun g => ?_, fun g => ?_⟩
  rotate_left
  · have hal2 := of_decide_eq_false (show decide ((at' : Int) > (fr : Int)) = false from g)
    have he : at' = fr := by omega
    refine ⟨⟨(at' + 1, l), by simp only []; omega, hn, hm, fun i h3 h4 => ?_⟩, by simp only []; omega, th [] 7, rfl, rfl, rfl, rfl, rfl, rfl, ?_, ?_⟩
    · simp only [] at h3
      by_cases e : i = at'
      · rw [e]; exact hstop (by omega)
      · exact hz i (by omega) h4
    · (repeat' first | exact trivial | exact rfl | refine And.intro ?_ ?_)
      exact (wrap_nat at' (by omega)).symm
    · (repeat' first | exact trivial | exact rfl | refine And.intro ?_ ?_)
  have hgt := of_decide_eq_true (show decide ((at' : Int) > (fr : Int)) = true from g)
  have hat : at' ≤ s.length := h2
  intro _
  refine yield_ok tt_ok ?_
  intro _; refine ⟨by kernel_rfl, ?_⟩
  have eF : 0 < fr → IntKind.i64.wrap ((fr : Int) - 1) = ((fr - 1 : Nat) : Int) := fun h => by rw [wrapS _ ⟨by omega, by omega⟩]; omega
  intro _; refine ⟨fun g => ?_, fun g => ?_⟩
  · have hf0 := of_decide_eq_true (show decide ((fr : Int) > 0) = true from g)
    have eF := eF (by omega)
    have hp1 := hz (fr - 1) (by omega) (by omega)
    have hp2 := (hm (fr - 1) (by omega)).2.2
    intro _; refine ⟨show 0 ≤ IntKind.i64.wrap ((fr : Int) - 1) ∧ IntKind.i64.wrap ((fr : Int) - 1) < (s.length : Int) by rw [eF]; omega, ?_⟩
    intro _; refine ⟨show (IntKind.i64.wrap ((fr : Int) - 1)).toNat < l.length by rw [eF]; omega, ?_⟩
    intro _; refine ⟨fun g => ?_, fun g => ?_⟩
    · have hal3 := of_decide_eq_true (show decide ((at' : Int) < (s.length : Int)) = true from g)
      intro _; refine ⟨show 0 ≤ (at' : Int) ∧ (at' : Int) < (s.length : Int) by omega, ?_⟩
      intro _; refine ⟨show (at' : Int).toNat < l.length by omega, ?_⟩
      intro _; refine ⟨fun g => ?_, fun g => ?_⟩
      · skip
        have hb : dir = 0 ∨ dir = 1 := hd
        intro _
        refine loop2 tt_ok [13, 11] [1] 7 (fun q : I3 s l fr at' => [(13, .int .i64 (q.1.1 : Nat)), (11, .int .i64 (dir))]) (fun q => [(1, .arr [.int .i64] .own (.ints q.1.2))]) (fun q => at' - q.1.1) ⟨(fr, l), Nat.le_refl _, by simp only []; omega, hn, hm, hz, hrun, fun j hj => rfl⟩ ?_
        intro _
        refine ⟨⟨th [] 7, rfl, rfl, rfl, rfl, rfl, rfl, ?_, ?_⟩, ?_⟩
        · (repeat' first | exact trivial | exact rfl | refine And.intro ?_ ?_)
        · (repeat' first | exact trivial | exact rfl | refine And.intro ?_ ?_)
        intro ⟨⟨k, l'⟩, hfk, hka, hn', hm', hz', hrun', hrest'⟩
        simp only [] at hfk hka hn' hm' hz' hrun' hrest'
        intro _; refine ⟨fun g => ?_, fun g => ?_⟩
        · have hkl := of_decide_eq_true (show decide ((k : Int) < (at' : Int)) = true from g)
          intro _; refine ⟨show 0 ≤ (k : Int) ∧ (k : Int) < (s.length : Int) by omega, ?_⟩
          intro _; refine ⟨show (k : Int).toNat < l'.length by omega, ?_⟩
          refine ⟨⟨(k + 1, l'.set k (dir)), ?_⟩, by simp only []; omega, th [] 7, rfl, rfl, rfl, rfl, rfl, rfl, ?_, ?_⟩
          · exact i3_set hfk hkl hat hn' hm' hz' hrun' hrest' hb
          · (repeat' first | exact trivial | exact rfl | refine And.intro ?_ ?_)
            exact (wrap_nat k (by omega)).symm
          · (repeat' first | exact trivial | exact rfl | refine And.intro ?_ ?_)
        have hkl := of_decide_eq_false (show decide ((k : Int) < (at' : Int)) = false from g)
        have hkl : k = at' := by omega
        intro _
        refine ⟨⟨(at' + 1, l'), by simp only []; omega, hn', hm', fun i h3 h4 => ?_⟩, by simp only []; omega, th [] 7, rfl, rfl, rfl, rfl, rfl, rfl, ?_, ?_⟩
        · simp only [] at h3
          by_cases e : i = at'
          · rw [e, hrest' at' (Nat.le_refl _)]; exact hstop (by omega)
          · exact hz' i (by omega) h4
        · (repeat' first | exact trivial | exact rfl | refine And.intro ?_ ?_)
          exact (wrap_nat at' (by omega)).symm
        · (repeat' first | exact trivial | exact rfl | refine And.intro ?_ ?_)
      have hb : gt l (fr - 1) = 0 ∨ gt l (fr - 1) = 1 := by omega
      intro _
      refine loop2 tt_ok [13, 11] [1] 7 (fun q : I3 s l fr at' => [(13, .int .i64 (q.1.1 : Nat)), (11, .int .i64 (gt l (fr - 1)))]) (fun q => [(1, .arr [.int .i64] .own (.ints q.1.2))]) (fun q => at' - q.1.1) ⟨(fr, l), Nat.le_refl _, by simp only []; omega, hn, hm, hz, hrun, fun j hj => rfl⟩ ?_
      intro _
      refine ⟨⟨th [] 7, rfl, rfl, rfl, rfl, rfl, rfl, ?_, ?_⟩, ?_⟩
      · (repeat' first | exact trivial | exact rfl | refine And.intro ?_ ?_)
        show gt l (fr - 1) = l.getD (IntKind.i64.wrap ((fr : Int) - 1)).toNat 0; rw [eF]; rfl
      · (repeat' first | exact trivial | exact rfl | refine And.intro ?_ ?_)
      intro ⟨⟨k, l'⟩, hfk, hka, hn', hm', hz', hrun', hrest'⟩
      simp only [] at hfk hka hn' hm' hz' hrun' hrest'
      intro _; refine ⟨fun g => ?_, fun g => ?_⟩
      · have hkl := of_decide_eq_true (show decide ((k : Int) < (at' : Int)) = true from g)
        intro _; refine ⟨show 0 ≤ (k : Int) ∧ (k : Int) < (s.length : Int) by omega, ?_⟩
        intro _; refine ⟨show (k : Int).toNat < l'.length by omega, ?_⟩
        refine ⟨⟨(k + 1, l'.set k (gt l (fr - 1))), ?_⟩, by simp only []; omega, th [] 7, rfl, rfl, rfl, rfl, rfl, rfl, ?_, ?_⟩
        · exact i3_set hfk hkl hat hn' hm' hz' hrun' hrest' hb
        · (repeat' first | exact trivial | exact rfl | refine And.intro ?_ ?_)
          exact (wrap_nat k (by omega)).symm
        · (repeat' first | exact trivial | exact rfl | refine And.intro ?_ ?_)
      have hkl := of_decide_eq_false (show decide ((k : Int) < (at' : Int)) = false from g)
      have hkl : k = at' := by omega
      intro _
      refine ⟨⟨(at' + 1, l'), by simp only []; omega, hn', hm', fun i h3 h4 => ?_⟩, by simp only []; omega, th [] 7, rfl, rfl, rfl, rfl, rfl, rfl, ?_, ?_⟩
      · simp only [] at h3
        by_cases e : i = at'
        · rw [e, hrest' at' (Nat.le_refl _)]; exact hstop (by omega)
        · exact hz' i (by omega) h4
      · (repeat' first | exact trivial | exact rfl | refine And.intro ?_ ?_)
        exact (wrap_nat at' (by omega)).symm
      · (repeat' first | exact trivial | exact rfl | refine And.intro ?_ ?_)
    intro _; refine ⟨fun g => ?_, fun g => ?_⟩
    · skip
      have hb : dir = 0 ∨ dir = 1 := hd
      intro _
      refine loop2 tt_ok [13, 11] [1] 7 (fun q : I3 s l fr at' => [(13, .int .i64 (q.1.1 : Nat)), (11, .int .i64 (dir))]) (fun q => [(1, .arr [.int .i64] .own (.ints q.1.2))]) (fun q => at' - q.1.1) ⟨(fr, l), Nat.le_refl _, by simp only []; omega, hn, hm, hz, hrun, fun j hj => rfl⟩ ?_
      intro _
      refine ⟨⟨th [] 7, rfl, rfl, rfl, rfl, rfl, rfl, ?_, ?_⟩, ?_⟩
      · (repeat' first | exact trivial | exact rfl | refine And.intro ?_ ?_)
      · (repeat' first | exact trivial | exact rfl | refine And.intro ?_ ?_)
      intro ⟨⟨k, l'⟩, hfk, hka, hn', hm', hz', hrun', hrest'⟩
      simp only [] at hfk hka hn' hm' hz' hrun' hrest'
      intro _; refine ⟨fun g => ?_, fun g => ?_⟩
      · have hkl := of_decide_eq_true (show decide ((k : Int) < (at' : Int)) = true from g)
        intro _; refine ⟨show 0 ≤ (k : Int) ∧ (k : Int) < (s.length : Int) by omega, ?_⟩
        intro _; refine ⟨show (k : Int).toNat < l'.length by omega, ?_⟩
        refine ⟨⟨(k + 1, l'.set k (dir)), ?_⟩, by simp only []; omega, th [] 7, rfl, rfl, rfl, rfl, rfl, rfl, ?_, ?_⟩
        · exact i3_set hfk hkl hat hn' hm' hz' hrun' hrest' hb
        · (repeat' first | exact trivial | exact rfl | refine And.intro ?_ ?_)
          exact (wrap_nat k (by omega)).symm
        · (repeat' first | exact trivial | exact rfl | refine And.intro ?_ ?_)
      have hkl := of_decide_eq_false (show decide ((k : Int) < (at' : Int)) = false from g)
      have hkl : k = at' := by omega
      intro _
      refine ⟨⟨(at' + 1, l'), by simp only []; omega, hn', hm', fun i h3 h4 => ?_⟩, by simp only []; omega, th [] 7, rfl, rfl, rfl, rfl, rfl, rfl, ?_, ?_⟩
      · simp only [] at h3
        by_cases e : i = at'
        · rw [e, hrest' at' (Nat.le_refl _)]; exact hstop (by omega)
        · exact hz' i (by omega) h4
      · (repeat' first | exact trivial | exact rfl | refine And.intro ?_ ?_)
        exact (wrap_nat at' (by omega)).symm
      · (repeat' first | exact trivial | exact rfl | refine And.intro ?_ ?_)
    have hb : gt l (fr - 1) = 0 ∨ gt l (fr - 1) = 1 := by omega
    intro _
    refine loop2 tt_ok [13, 11] [1] 7 (fun q : I3 s l fr at' => [(13, .int .i64 (q.1.1 : Nat)), (11, .int .i64 (gt l (fr - 1)))]) (fun q => [(1, .arr [.int .i64] .own (.ints q.1.2))]) (fun q => at' - q.1.1) ⟨(fr, l), Nat.le_refl _, by simp only []; omega, hn, hm, hz, hrun, fun j hj => rfl⟩ ?_
    intro _
    refine ⟨⟨th [] 7, rfl, rfl, rfl, rfl, rfl, rfl, ?_, ?_⟩, ?_⟩
    · (repeat' first | exact trivial | exact rfl | refine And.intro ?_ ?_)
      show gt l (fr - 1) = l.getD (IntKind.i64.wrap ((fr : Int) - 1)).toNat 0; rw [eF]; rfl
    · (repeat' first | exact trivial | exact rfl | refine And.intro ?_ ?_)
    intro ⟨⟨k, l'⟩, hfk, hka, hn', hm', hz', hrun', hrest'⟩
    simp only [] at hfk hka hn' hm' hz' hrun' hrest'
    intro _; refine ⟨fun g => ?_, fun g => ?_⟩
    · have hkl := of_decide_eq_true (show decide ((k : Int) < (at' : Int)) = true from g)
      intro _; refine ⟨show 0 ≤ (k : Int) ∧ (k : Int) < (s.length : Int) by omega, ?_⟩
      intro _; refine ⟨show (k : Int).toNat < l'.length by omega, ?_⟩
      refine ⟨⟨(k + 1, l'.set k (gt l (fr - 1))), ?_⟩, by simp only []; omega, th [] 7, rfl, rfl, rfl, rfl, rfl, rfl, ?_, ?_⟩
      · exact i3_set hfk hkl hat hn' hm' hz' hrun' hrest' hb
      · (repeat' first | exact trivial | exact rfl | refine And.intro ?_ ?_)
        exact (wrap_nat k (by omega)).symm
      · (repeat' first | exact trivial | exact rfl | refine And.intro ?_ ?_)
    have hkl := of_decide_eq_false (show decide ((k : Int) < (at' : Int)) = false from g)
    have hkl : k = at' := by omega
    intro _
    refine ⟨⟨(at' + 1, l'), by simp only []; omega, hn', hm', fun i h3 h4 => ?_⟩, by simp only []; omega, th [] 7, rfl, rfl, rfl, rfl, rfl, rfl, ?_, ?_⟩
    · simp only [] at h3
      by_cases e : i = at'
      · rw [e, hrest' at' (Nat.le_refl _)]; exact hstop (by omega)
      · exact hz' i (by omega) h4
    · (repeat' first | exact trivial | exact rfl | refine And.intro ?_ ?_)
      exact (wrap_nat at' (by omega)).symm
    · (repeat' first | exact trivial | exact rfl | refine And.intro ?_ ?_)
  intro _; refine ⟨fun g => ?_, fun g => ?_⟩
  · have hal3 := of_decide_eq_true (show decide ((at' : Int) < (s.length : Int)) = true from g)
    intro _; refine ⟨show 0 ≤ (at' : Int) ∧ (at' : Int) < (s.length : Int) by omega, ?_⟩
    intro _; refine ⟨show (at' : Int).toNat < l.length by omega, ?_⟩
    intro _; refine ⟨fun g => ?_, fun g => ?_⟩
    · skip
      have hb : dir = 0 ∨ dir = 1 := hd
      intro _
      refine loop2 tt_ok [13, 11] [1] 7 (fun q : I3 s l fr at' => [(13, .int .i64 (q.1.1 : Nat)), (11, .int .i64 (dir))]) (fun q => [(1, .arr [.int .i64] .own (.ints q.1.2))]) (fun q => at' - q.1.1) ⟨(fr, l), Nat.le_refl _, by simp only []; omega, hn, hm, hz, hrun, fun j hj => rfl⟩ ?_
      intro _
      refine ⟨⟨th [] 7, rfl, rfl, rfl, rfl, rfl, rfl, ?_, ?_⟩, ?_⟩
      · (repeat' first | exact trivial | exact rfl | refine And.intro ?_ ?_)
      · (repeat' first | exact trivial | exact rfl | refine And.intro ?_ ?_)
      intro ⟨⟨k, l'⟩, hfk, hka, hn', hm', hz', hrun', hrest'⟩
      simp only [] at hfk hka hn' hm' hz' hrun' hrest'
      intro _; refine ⟨fun g => ?_, fun g => ?_⟩
      · have hkl := of_decide_eq_true (show decide ((k : Int) < (at' : Int)) = true from g)
        intro _; refine ⟨show 0 ≤ (k : Int) ∧ (k : Int) < (s.length : Int) by omega, ?_⟩
        intro _; refine ⟨show (k : Int).toNat < l'.length by omega, ?_⟩
        refine ⟨⟨(k + 1, l'.set k (dir)), ?_⟩, by simp only []; omega, th [] 7, rfl, rfl, rfl, rfl, rfl, rfl, ?_, ?_⟩
        · exact i3_set hfk hkl hat hn' hm' hz' hrun' hrest' hb
        · (repeat' first | exact trivial | exact rfl | refine And.intro ?_ ?_)
          exact (wrap_nat k (by omega)).symm
        · (repeat' first | exact trivial | exact rfl | refine And.intro ?_ ?_)
      have hkl := of_decide_eq_false (show decide ((k : Int) < (at' : Int)) = false from g)
      have hkl : k = at' := by omega
      intro _
      refine ⟨⟨(at' + 1, l'), by simp only []; omega, hn', hm', fun i h3 h4 => ?_⟩, by simp only []; omega, th [] 7, rfl, rfl, rfl, rfl, rfl, rfl, ?_, ?_⟩
      · simp only [] at h3
        by_cases e : i = at'
        · rw [e, hrest' at' (Nat.le_refl _)]; exact hstop (by omega)
        · exact hz' i (by omega) h4
      · (repeat' first | exact trivial | exact rfl | refine And.intro ?_ ?_)
        exact (wrap_nat at' (by omega)).symm
      · (repeat' first | exact trivial | exact rfl | refine And.intro ?_ ?_)
    have hb : dir = 0 ∨ dir = 1 := hd
    intro _
    refine loop2 tt_ok [13, 11] [1] 7 (fun q : I3 s l fr at' => [(13, .int .i64 (q.1.1 : Nat)), (11, .int .i64 (dir))]) (fun q => [(1, .arr [.int .i64] .own (.ints q.1.2))]) (fun q => at' - q.1.1) ⟨(fr, l), Nat.le_refl _, by simp only []; omega, hn, hm, hz, hrun, fun j hj => rfl⟩ ?_
    intro _
    refine ⟨⟨th [] 7, rfl, rfl, rfl, rfl, rfl, rfl, ?_, ?_⟩, ?_⟩
    · (repeat' first | exact trivial | exact rfl | refine And.intro ?_ ?_)
    · (repeat' first | exact trivial | exact rfl | refine And.intro ?_ ?_)
    intro ⟨⟨k, l'⟩, hfk, hka, hn', hm', hz', hrun', hrest'⟩
    simp only [] at hfk hka hn' hm' hz' hrun' hrest'
    intro _; refine ⟨fun g => ?_, fun g => ?_⟩
    · have hkl := of_decide_eq_true (show decide ((k : Int) < (at' : Int)) = true from g)
      intro _; refine ⟨show 0 ≤ (k : Int) ∧ (k : Int) < (s.length : Int) by omega, ?_⟩
      intro _; refine ⟨show (k : Int).toNat < l'.length by omega, ?_⟩
      refine ⟨⟨(k + 1, l'.set k (dir)), ?_⟩, by simp only []; omega, th [] 7, rfl, rfl, rfl, rfl, rfl, rfl, ?_, ?_⟩
      · exact i3_set hfk hkl hat hn' hm' hz' hrun' hrest' hb
      · (repeat' first | exact trivial | exact rfl | refine And.intro ?_ ?_)
        exact (wrap_nat k (by omega)).symm
      · (repeat' first | exact trivial | exact rfl | refine And.intro ?_ ?_)
    have hkl := of_decide_eq_false (show decide ((k : Int) < (at' : Int)) = false from g)
    have hkl : k = at' := by omega
    intro _
    refine ⟨⟨(at' + 1, l'), by simp only []; omega, hn', hm', fun i h3 h4 => ?_⟩, by simp only []; omega, th [] 7, rfl, rfl, rfl, rfl, rfl, rfl, ?_, ?_⟩
    · simp only [] at h3
      by_cases e : i = at'
      · rw [e, hrest' at' (Nat.le_refl _)]; exact hstop (by omega)
      · exact hz' i (by omega) h4
    · (repeat' first | exact trivial | exact rfl | refine And.intro ?_ ?_)
      exact (wrap_nat at' (by omega)).symm
    · (repeat' first | exact trivial | exact rfl | refine And.intro ?_ ?_)
  intro _; refine ⟨fun g => ?_, fun g => ?_⟩
  · skip
    have hb : dir = 0 ∨ dir = 1 := hd
    intro _
    refine loop2 tt_ok [13, 11] [1] 7 (fun q : I3 s l fr at' => [(13, .int .i64 (q.1.1 : Nat)), (11, .int .i64 (dir))]) (fun q => [(1, .arr [.int .i64] .own (.ints q.1.2))]) (fun q => at' - q.1.1) ⟨(fr, l), Nat.le_refl _, by simp only []; omega, hn, hm, hz, hrun, fun j hj => rfl⟩ ?_
    intro _
    refine ⟨⟨th [] 7, rfl, rfl, rfl, rfl, rfl, rfl, ?_, ?_⟩, ?_⟩
    · (repeat' first | exact trivial | exact rfl | refine And.intro ?_ ?_)
    · (repeat' first | exact trivial | exact rfl | refine And.intro ?_ ?_)
    intro ⟨⟨k, l'⟩, hfk, hka, hn', hm', hz', hrun', hrest'⟩
    simp only [] at hfk hka hn' hm' hz' hrun' hrest'
    intro _; refine ⟨fun g => ?_, fun g => ?_⟩
    · have hkl := of_decide_eq_true (show decide ((k : Int) < (at' : Int)) = true from g)
      intro _; refine ⟨show 0 ≤ (k : Int) ∧ (k : Int) < (s.length : Int) by omega, ?_⟩
      intro _; refine ⟨show (k : Int).toNat < l'.length by omega, ?_⟩
      refine ⟨⟨(k + 1, l'.set k (dir)), ?_⟩, by simp only []; omega, th [] 7, rfl, rfl, rfl, rfl, rfl, rfl, ?_, ?_⟩
      · exact i3_set hfk hkl hat hn' hm' hz' hrun' hrest' hb
      · (repeat' first | exact trivial | exact rfl | refine And.intro ?_ ?_)
        exact (wrap_nat k (by omega)).symm
      · (repeat' first | exact trivial | exact rfl | refine And.intro ?_ ?_)
    have hkl := of_decide_eq_false (show decide ((k : Int) < (at' : Int)) = false from g)
    have hkl : k = at' := by omega
    intro _
    refine ⟨⟨(at' + 1, l'), by simp only []; omega, hn', hm', fun i h3 h4 => ?_⟩, by simp only []; omega, th [] 7, rfl, rfl, rfl, rfl, rfl, rfl, ?_, ?_⟩
    · simp only [] at h3
      by_cases e : i = at'
      · rw [e, hrest' at' (Nat.le_refl _)]; exact hstop (by omega)
      · exact hz' i (by omega) h4
    · (repeat' first | exact trivial | exact rfl | refine And.intro ?_ ?_)
      exact (wrap_nat at' (by omega)).symm
    · (repeat' first | exact trivial | exact rfl | refine And.intro ?_ ?_)
  have hb : dir = 0 ∨ dir = 1 := hd
  intro _
  refine loop2 tt_ok [13, 11] [1] 7 (fun q : I3 s l fr at' => [(13, .int .i64 (q.1.1 : Nat)), (11, .int .i64 (dir))]) (fun q => [(1, .arr [.int .i64] .own (.ints q.1.2))]) (fun q => at' - q.1.1) ⟨(fr, l), Nat.le_refl _, by simp only []; omega, hn, hm, hz, hrun, fun j hj => rfl⟩ ?_
  intro _
  refine ⟨⟨th [] 7, rfl, rfl, rfl, rfl, rfl, rfl, ?_, ?_⟩, ?_⟩
  · (repeat' first | exact trivial | exact rfl | refine And.intro ?_ ?_)
  · (repeat' first | exact trivial | exact rfl | refine And.intro ?_ ?_)
  intro ⟨⟨k, l'⟩, hfk, hka, hn', hm', hz', hrun', hrest'⟩
  simp only [] at hfk hka hn' hm' hz' hrun' hrest'
  intro _; refine ⟨fun g => ?_, fun g => ?_⟩
  · have hkl := of_decide_eq_true (show decide ((k : Int) < (at' : Int)) = true from g)
    intro _; refine ⟨show 0 ≤ (k : Int) ∧ (k : Int) < (s.length : Int) by omega, ?_⟩
    intro _; refine ⟨show (k : Int).toNat < l'.length by omega, ?_⟩
    refine ⟨⟨(k + 1, l'.set k (dir)), ?_⟩, by simp only []; omega, th [] 7, rfl, rfl, rfl, rfl, rfl, rfl, ?_, ?_⟩
    · exact i3_set hfk hkl hat hn' hm' hz' hrun' hrest' hb
    · (repeat' first | exact trivial | exact rfl | refine And.intro ?_ ?_)
      exact (wrap_nat k (by omega)).symm
    · (repeat' first | exact trivial | exact rfl | refine And.intro ?_ ?_)
  have hkl := of_decide_eq_false (show decide ((k : Int) < (at' : Int)) = false from g)
  have hkl : k = at' := by omega
  intro _
  refine ⟨⟨(at' + 1, l'), by simp only []; omega, hn', hm', fun i h3 h4 => ?_⟩, by simp only []; omega, th [] 7, rfl, rfl, rfl, rfl, rfl, rfl, ?_, ?_⟩
  · simp only [] at h3
    by_cases e : i = at'
    · rw [e, hrest' at' (Nat.le_refl _)]; exact hstop (by omega)
    · exact hz' i (by omega) h4
  · (repeat' first | exact trivial | exact rfl | refine And.intro ?_ ?_)
    exact (wrap_nat at' (by omega)).symm
  · (repeat' first | exact trivial | exact rfl | refine And.intro ?_ ?_)
def LV (s : List UInt8) (dir : Int) (l : List Int) (i : Nat) : Prop := (cl (by' s i) = 2 → gt l i = 1) ∧ (cl (by' s i) = 1 ∨ cl (by' s i) = 3 → gt l i ≠ 1) ∧ dir ≤ gt l i ∧ gt l i ≤ 2
theorem lv_set {s : List UInt8} {dir : Int} {l l' : List Int} {k : Nat} {v : Int} (hk : k < l'.length) (hm : ∀ i, i < k → LV s dir l' i) (hr : ∀ i, k ≤ i → gt l' i = gt l i) (h1 : cl (by' s k) = 2 → v = 1) (h2 : cl (by' s k) = 1 ∨ cl (by' s k) = 3 → v ≠ 1) (h3 : dir ≤ v) (h4 : v ≤ 2) :
    (l'.set k v).length = l'.length ∧ (∀ i, i < k + 1 → LV s dir (l'.set k v) i) ∧ ∀ i, k + 1 ≤ i → gt (l'.set k v) i = gt l i := by
  refine ⟨by simp, fun i hi => ?_, fun i hi => ?_⟩
  · unfold LV
    rw [gt_set hk]
    by_cases e : i = k
    · subst e; rw [if_pos rfl]; exact ⟨h1, h2, h3, h4⟩
    · rw [if_neg e]; exact hm i (by omega)
  · rw [gt_set hk, if_neg (by omega)]; exact hr i (by omega)
def LQ (s : List UInt8) (dir : Int) : V → Go.Vm2.H → Prop := fun v h' => ∃ l : List Int, l.length = s.length ∧ (∀ i, i < s.length → LV s dir l i) ∧ v = .grw 0 l.length ∧ h' = ⟨1, 0, [(0, .arr [.int .i64] .own (.ints l))]⟩
set_option maxHeartbeats 4000000 in
theorem levels_ok (s : List UInt8) (dir : Int) (hV : VA s) (hd : dir = 0 ∨ dir = 1) : SemF Try.prog 25 [.str s, .int .i64 dir] ⟨0, 0, []⟩ (LQ s dir) := by
  have hl := hV.1
  refine SemF.ret ?_
  refine enter tt_ok Try.func25 (nt := 44) (cd := body Try.f25) rfl rfl rfl rfl ?_
  rcases hd with rfl | rfl
  · skip
    intro _; refine ⟨fun g => absurd (show ((0 : Int) == 1) = true from g) (by decide), fun _ => ?_⟩
    intro _
    refine call_new [] (dirs_ok s 0 hV (by decide)) rfl rfl rfl rfl ?_ ?_ ?_
    · (repeat' first | exact trivial | exact rfl | refine And.intro ?_ ?_)
    · (repeat' first | exact trivial | exact rfl | refine And.intro ?_ ?_)
    intro v h' hv
    obtain ⟨l, hn, hm, rfl, rfl⟩ := hv
    refine ⟨[(2, some 0)], 3, [(2, .arr [.int .i64] .own (.ints l))], .grw 2 l.length, rfl, rfl, rfl, rfl, rfl, ?_, ?_, ?_⟩
    · (repeat' first | exact trivial | exact rfl | refine And.intro ?_ ?_)
    · (repeat' first | exact trivial | exact rfl | refine And.intro ?_ ?_)
    intro _
    refine loop2 tt_ok [21] [2] 3 (fun k : { p : Nat × List Int // p.1 ≤ s.length ∧ p.2.length = s.length ∧ (∀ i, i < p.1 → LV s 0 p.2 i) ∧ ∀ i, p.1 ≤ i → gt p.2 i = gt l i } => [(21, .int .i64 (k.1.1 : Nat))]) (fun k => [(2, .arr [.int .i64] .own (.ints k.1.2))]) (fun k => s.length - k.1.1) ⟨(0, l), by simp only []; omega, hn, fun i h => by simp only [] at h; omega, fun i _ => rfl⟩ ?_
    intro _
    refine ⟨⟨th [] 3, rfl, rfl, rfl, rfl, rfl, rfl, ?_, ?_⟩, ?_⟩
    · (repeat' first | exact trivial | exact rfl | refine And.intro ?_ ?_)
    · (repeat' first | exact trivial | exact rfl | refine And.intro ?_ ?_)
    intro ⟨⟨k, l'⟩, hk, hn', hm', hr⟩
    simp only [] at hk hn' hm' hr
    intro _; refine ⟨fun g => ?_, fun g => ?_⟩
    rotate_left
    · have hkl := of_decide_eq_false (show decide ((k : Int) < (l.length : Int)) = false from g)
      have hkl : k = s.length := by omega
      intro _
      refine ⟨[(0, some 2)], .grw 0 l'.length, ⟨1, 0, [(0, .arr [.int .i64] .own (.ints l'))]⟩, rfl, rfl, rfl, rfl, ?_, ?_, ⟨l', hn', fun i hi => hm' i (by omega), rfl, rfl⟩⟩
      · (repeat' first | exact trivial | exact rfl | refine And.intro ?_ ?_)
        show l'.length = l.length
        omega
      · (repeat' first | exact trivial | exact rfl | refine And.intro ?_ ?_)
    have hkl := of_decide_eq_true (show decide ((k : Int) < (l.length : Int)) = true from g)
    have hb := (hm k (by omega)).1
    have hb2 := (hm k (by omega)).2
    have he := hr k (Nat.le_refl _)
    have hd01 : l'.getD (k : Int).toNat 0 = ((0 : Nat) : Int) ∨ l'.getD (k : Int).toNat 0 = ((1 : Nat) : Int) := by
      have h3 := hb.2.2
      rw [← he] at h3 hb2
      rcases h3 with h | h | h
      · exact .inl h
      · exact .inr h
      · exact absurd h hb2
    have hb : (cl (by' s k) = 1 → gt l' k = 0) ∧ (cl (by' s k) = 2 → gt l' k = 1) := by rw [he]; exact ⟨hb.1, hb.2.1⟩
    have eg : l'.getD (k : Int).toNat 0 = gt l' k := rfl
    rw [eg] at hd01
    intro _; refine ⟨show 0 ≤ (k : Int) ∧ (k : Int) < (l.length : Int) by omega, ?_⟩
    intro _; refine ⟨show (k : Int).toNat < l'.length by omega, ?_⟩
    intro _; refine ⟨show 0 ≤ (k : Int) ∧ (k : Int) < (s.length : Int) by omega, ?_⟩
    intro _
    refine call_pure [] (isdig_ok (by' s k) (by_bd s k)) rfl rfl rfl ?_ ?_ ?_
    · (repeat' first | exact trivial | exact rfl | refine And.intro ?_ ?_)
    · (repeat' first | exact trivial | exact rfl | refine And.intro ?_ ?_)
    intro v hv _
    subst hv
    intro _; refine ⟨fun g => ?_, fun g => ?_⟩
    · have g : (cl (by' s k) == 3) = true := g
      have g3 : cl (by' s k) = 3 := by simpa using g
      rcases hd01 with hg | hg
      · skip
        intro _; refine ⟨0, hg, ?_⟩
        intro _; refine ⟨show 0 ≤ (k : Int) ∧ (k : Int) < (l.length : Int) by omega, ?_⟩
        intro _; refine ⟨show (k : Int).toNat < l'.length by omega, ?_⟩
        have st := lv_set (v := 0) (by omega) hm' hr (fun h => by have := hb.2 h; omega) (fun h => by rcases h with h | h; have := hb.1 h; omega; omega) (by decide) (by decide)
        refine ⟨⟨(k + 1, l'.set k 0), by simp only []; omega, by rw [st.1]; exact hn', st.2.1, st.2.2⟩, by simp only []; omega, th [] 3, rfl, rfl, rfl, rfl, rfl, rfl, ?_, ?_⟩
        · (repeat' first | exact trivial | exact rfl | refine And.intro ?_ ?_)
          exact (wrap_nat k (by omega)).symm
        · (repeat' first | exact trivial | exact rfl | refine And.intro ?_ ?_)
      · skip
        intro _; refine ⟨1, hg, ?_⟩
        intro _; refine ⟨show 0 ≤ (k : Int) ∧ (k : Int) < (l.length : Int) by omega, ?_⟩
        intro _; refine ⟨show (k : Int).toNat < l'.length by omega, ?_⟩
        have st := lv_set (v := 2) (by omega) hm' hr (fun h => by have := hb.2 h; omega) (fun h => by rcases h with h | h; have := hb.1 h; omega; omega) (by decide) (by decide)
        refine ⟨⟨(k + 1, l'.set k 2), by simp only []; omega, by rw [st.1]; exact hn', st.2.1, st.2.2⟩, by simp only []; omega, th [] 3, rfl, rfl, rfl, rfl, rfl, rfl, ?_, ?_⟩
        · (repeat' first | exact trivial | exact rfl | refine And.intro ?_ ?_)
          exact (wrap_nat k (by omega)).symm
        · (repeat' first | exact trivial | exact rfl | refine And.intro ?_ ?_)
    · have g : (cl (by' s k) == 3) = false := g
      have g3 : ¬ cl (by' s k) = 3 := by simpa using g
      rcases hd01 with hg | hg
      · skip
        intro _; refine ⟨0, hg, ?_⟩
        intro _; refine ⟨show 0 ≤ (k : Int) ∧ (k : Int) < (l.length : Int) by omega, ?_⟩
        intro _; refine ⟨show (k : Int).toNat < l'.length by omega, ?_⟩
        have st := lv_set (v := 0) (by omega) hm' hr (fun h => by have := hb.2 h; omega) (fun h => by rcases h with h | h; have := hb.1 h; omega; omega) (by decide) (by decide)
        refine ⟨⟨(k + 1, l'.set k 0), by simp only []; omega, by rw [st.1]; exact hn', st.2.1, st.2.2⟩, by simp only []; omega, th [] 3, rfl, rfl, rfl, rfl, rfl, rfl, ?_, ?_⟩
        · (repeat' first | exact trivial | exact rfl | refine And.intro ?_ ?_)
          exact (wrap_nat k (by omega)).symm
        · (repeat' first | exact trivial | exact rfl | refine And.intro ?_ ?_)
      · skip
        intro _; refine ⟨1, hg, ?_⟩
        intro _; refine ⟨show 0 ≤ (k : Int) ∧ (k : Int) < (l.length : Int) by omega, ?_⟩
        intro _; refine ⟨show (k : Int).toNat < l'.length by omega, ?_⟩
        have st := lv_set (v := 1) (by omega) hm' hr (fun h => by have := hb.2 h; omega) (fun h => by rcases h with h | h; have := hb.1 h; omega; omega) (by decide) (by decide)
        refine ⟨⟨(k + 1, l'.set k 1), by simp only []; omega, by rw [st.1]; exact hn', st.2.1, st.2.2⟩, by simp only []; omega, th [] 3, rfl, rfl, rfl, rfl, rfl, rfl, ?_, ?_⟩
        · (repeat' first | exact trivial | exact rfl | refine And.intro ?_ ?_)
          exact (wrap_nat k (by omega)).symm
        · (repeat' first | exact trivial | exact rfl | refine And.intro ?_ ?_)
  · skip
    intro _; refine ⟨fun _ => ?_, fun g => absurd (show ((1 : Int) == 1) = false from g) (by decide)⟩
    intro _
    refine call_new [] (dirs_ok s 1 hV (by decide)) rfl rfl rfl rfl ?_ ?_ ?_
    · (repeat' first | exact trivial | exact rfl | refine And.intro ?_ ?_)
    · (repeat' first | exact trivial | exact rfl | refine And.intro ?_ ?_)
    intro v h' hv
    obtain ⟨l, hn, hm, rfl, rfl⟩ := hv
    refine ⟨[(2, some 0)], 3, [(2, .arr [.int .i64] .own (.ints l))], .grw 2 l.length, rfl, rfl, rfl, rfl, rfl, ?_, ?_, ?_⟩
    · (repeat' first | exact trivial | exact rfl | refine And.intro ?_ ?_)
    · (repeat' first | exact trivial | exact rfl | refine And.intro ?_ ?_)
    intro _
    refine loop2 tt_ok [21] [2] 3 (fun k : { p : Nat × List Int // p.1 ≤ s.length ∧ p.2.length = s.length ∧ (∀ i, i < p.1 → LV s 1 p.2 i) ∧ ∀ i, p.1 ≤ i → gt p.2 i = gt l i } => [(21, .int .i64 (k.1.1 : Nat))]) (fun k => [(2, .arr [.int .i64] .own (.ints k.1.2))]) (fun k => s.length - k.1.1) ⟨(0, l), by simp only []; omega, hn, fun i h => by simp only [] at h; omega, fun i _ => rfl⟩ ?_
    intro _
    refine ⟨⟨th [] 3, rfl, rfl, rfl, rfl, rfl, rfl, ?_, ?_⟩, ?_⟩
    · (repeat' first | exact trivial | exact rfl | refine And.intro ?_ ?_)
    · (repeat' first | exact trivial | exact rfl | refine And.intro ?_ ?_)
    intro ⟨⟨k, l'⟩, hk, hn', hm', hr⟩
    simp only [] at hk hn' hm' hr
    intro _; refine ⟨fun g => ?_, fun g => ?_⟩
    rotate_left
    · have hkl := of_decide_eq_false (show decide ((k : Int) < (l.length : Int)) = false from g)
      have hkl : k = s.length := by omega
      intro _
      refine ⟨[(0, some 2)], .grw 0 l'.length, ⟨1, 0, [(0, .arr [.int .i64] .own (.ints l'))]⟩, rfl, rfl, rfl, rfl, ?_, ?_, ⟨l', hn', fun i hi => hm' i (by omega), rfl, rfl⟩⟩
      · (repeat' first | exact trivial | exact rfl | refine And.intro ?_ ?_)
        show l'.length = l.length
        omega
      · (repeat' first | exact trivial | exact rfl | refine And.intro ?_ ?_)
    have hkl := of_decide_eq_true (show decide ((k : Int) < (l.length : Int)) = true from g)
    have hb := (hm k (by omega)).1
    have hb2 := (hm k (by omega)).2
    have he := hr k (Nat.le_refl _)
    have hd01 : l'.getD (k : Int).toNat 0 = ((0 : Nat) : Int) ∨ l'.getD (k : Int).toNat 0 = ((1 : Nat) : Int) := by
      have h3 := hb.2.2
      rw [← he] at h3 hb2
      rcases h3 with h | h | h
      · exact .inl h
      · exact .inr h
      · exact absurd h hb2
    have hb : (cl (by' s k) = 1 → gt l' k = 0) ∧ (cl (by' s k) = 2 → gt l' k = 1) := by rw [he]; exact ⟨hb.1, hb.2.1⟩
    have eg : l'.getD (k : Int).toNat 0 = gt l' k := rfl
    rw [eg] at hd01
    intro _; refine ⟨show 0 ≤ (k : Int) ∧ (k : Int) < (l.length : Int) by omega, ?_⟩
    intro _; refine ⟨show (k : Int).toNat < l'.length by omega, ?_⟩
    intro _; refine ⟨show 0 ≤ (k : Int) ∧ (k : Int) < (s.length : Int) by omega, ?_⟩
    intro _
    refine call_pure [] (isdig_ok (by' s k) (by_bd s k)) rfl rfl rfl ?_ ?_ ?_
    · (repeat' first | exact trivial | exact rfl | refine And.intro ?_ ?_)
    · (repeat' first | exact trivial | exact rfl | refine And.intro ?_ ?_)
    intro v hv _
    subst hv
    intro _; refine ⟨fun g => ?_, fun g => ?_⟩
    · have g : (cl (by' s k) == 3) = true := g
      have g3 : cl (by' s k) = 3 := by simpa using g
      rcases hd01 with hg | hg
      · skip
        intro _; refine ⟨0, hg, ?_⟩
        intro _; refine ⟨show 0 ≤ (k : Int) ∧ (k : Int) < (l.length : Int) by omega, ?_⟩
        intro _; refine ⟨show (k : Int).toNat < l'.length by omega, ?_⟩
        have st := lv_set (v := 2) (by omega) hm' hr (fun h => by have := hb.2 h; omega) (fun h => by rcases h with h | h; have := hb.1 h; omega; omega) (by decide) (by decide)
        refine ⟨⟨(k + 1, l'.set k 2), by simp only []; omega, by rw [st.1]; exact hn', st.2.1, st.2.2⟩, by simp only []; omega, th [] 3, rfl, rfl, rfl, rfl, rfl, rfl, ?_, ?_⟩
        · (repeat' first | exact trivial | exact rfl | refine And.intro ?_ ?_)
          exact (wrap_nat k (by omega)).symm
        · (repeat' first | exact trivial | exact rfl | refine And.intro ?_ ?_)
      · skip
        intro _; refine ⟨1, hg, ?_⟩
        intro _; refine ⟨show 0 ≤ (k : Int) ∧ (k : Int) < (l.length : Int) by omega, ?_⟩
        intro _; refine ⟨show (k : Int).toNat < l'.length by omega, ?_⟩
        have st := lv_set (v := 2) (by omega) hm' hr (fun h => by have := hb.2 h; omega) (fun h => by rcases h with h | h; have := hb.1 h; omega; omega) (by decide) (by decide)
        refine ⟨⟨(k + 1, l'.set k 2), by simp only []; omega, by rw [st.1]; exact hn', st.2.1, st.2.2⟩, by simp only []; omega, th [] 3, rfl, rfl, rfl, rfl, rfl, rfl, ?_, ?_⟩
        · (repeat' first | exact trivial | exact rfl | refine And.intro ?_ ?_)
          exact (wrap_nat k (by omega)).symm
        · (repeat' first | exact trivial | exact rfl | refine And.intro ?_ ?_)
    · have g : (cl (by' s k) == 3) = false := g
      have g3 : ¬ cl (by' s k) = 3 := by simpa using g
      rcases hd01 with hg | hg
      · skip
        intro _; refine ⟨0, hg, ?_⟩
        intro _; refine ⟨show 0 ≤ (k : Int) ∧ (k : Int) < (l.length : Int) by omega, ?_⟩
        intro _; refine ⟨show (k : Int).toNat < l'.length by omega, ?_⟩
        have st := lv_set (v := 2) (by omega) hm' hr (fun h => by have := hb.2 h; omega) (fun h => by rcases h with h | h; have := hb.1 h; omega; omega) (by decide) (by decide)
        refine ⟨⟨(k + 1, l'.set k 2), by simp only []; omega, by rw [st.1]; exact hn', st.2.1, st.2.2⟩, by simp only []; omega, th [] 3, rfl, rfl, rfl, rfl, rfl, rfl, ?_, ?_⟩
        · (repeat' first | exact trivial | exact rfl | refine And.intro ?_ ?_)
          exact (wrap_nat k (by omega)).symm
        · (repeat' first | exact trivial | exact rfl | refine And.intro ?_ ?_)
      · skip
        intro _; refine ⟨1, hg, ?_⟩
        intro _; refine ⟨show 0 ≤ (k : Int) ∧ (k : Int) < (l.length : Int) by omega, ?_⟩
        intro _; refine ⟨show (k : Int).toNat < l'.length by omega, ?_⟩
        have st := lv_set (v := 1) (by omega) hm' hr (fun h => by have := hb.2 h; omega) (fun h => by rcases h with h | h; have := hb.1 h; omega; omega) (by decide) (by decide)
        refine ⟨⟨(k + 1, l'.set k 1), by simp only []; omega, by rw [st.1]; exact hn', st.2.1, st.2.2⟩, by simp only []; omega, th [] 3, rfl, rfl, rfl, rfl, rfl, rfl, ?_, ?_⟩
        · (repeat' first | exact trivial | exact rfl | refine And.intro ?_ ?_)
          exact (wrap_nat k (by omega)).symm
        · (repeat' first | exact trivial | exact rfl | refine And.intro ?_ ?_)
theorem line_ok (s : List UInt8) (dir : Int) (hl : s.length ≤ 9223372036854775807) : SemF Try.prog 18 [.str s, .int .i64 dir] ⟨0, 0, []⟩ (fun v _ => v = .test (decide (VA s ∧ (dir = 0 ∨ dir = 1))) ∧ nameless v = true) := by
  refine SemF.test ?_
  refine enter tt_ok Try.func18 (nt := 15) (cd := body Try.f18) rfl rfl rfl rfl ?_
  intro _
  refine call_pure [] (rvalid_ok s hl) rfl rfl rfl ?_ ?_ ?_
  · (repeat' first | exact trivial | exact rfl | refine And.intro ?_ ?_)
  · (repeat' first | exact trivial | exact rfl | refine And.intro ?_ ?_)
  intro v hv _
  subst hv
  intro _; refine ⟨fun g => ?_, fun g => ?_⟩
  rotate_left
  · have g := of_decide_eq_false (show decide (VA s) = false from g)
    intro _
    exact ⟨false, .inl rfl, by rw [decide_eq_false (fun h => g h.1)], rfl⟩
  have hV := of_decide_eq_true (show decide (VA s) = true from g)
  intro _; refine ⟨fun g => ?_, fun g => ?_⟩
  · have g : (dir == 0) = true := g
    have g : dir = 0 := by simpa using g
    intro _
    exact ⟨true, .inl rfl, by rw [decide_eq_true ⟨hV, .inl g⟩], rfl⟩
  have g : (dir == 0) = false := g
  have g0 : ¬ dir = 0 := by simpa using g
  intro _
  refine ⟨_, .inr rfl, ?_, rfl⟩
  show V.test (dir == 1) = _
  by_cases e : dir = 1
  · rw [decide_eq_true ⟨hV, .inr e⟩, e]; rfl
  · rw [decide_eq_false (fun h => h.2.elim g0 e), beq_eq_false_iff_ne.2 e]
def LQ2 (s : List UInt8) (dir : Int) : V → Go.Vm2.H → Prop := fun v h' => ∃ l : List Int, l.length = s.length ∧ (∀ i, i < s.length → LV s dir l i) ∧ v = .tup [.grw 0 l.length, .int .i64 0] ∧ h' = ⟨1, 0, [(0, .arr [.int .i64] .own (.ints l))]⟩
theorem Levels_ok (s : List UInt8) (dir : Int) (hV : VA s) (hd : dir = 0 ∨ dir = 1) : SemF Try.prog 11 [.str s, .int .i64 dir] ⟨0, 0, []⟩ (LQ2 s dir) := by
  refine enter tt_ok Try.func11 (nt := 20) (cd := body Try.f11) rfl rfl rfl rfl ?_
  intro _
  refine call_pure [] (valid_ok s (by have := hV.1; omega)) rfl rfl rfl ?_ ?_ ?_
  · (repeat' first | exact trivial | exact rfl | refine And.intro ?_ ?_)
  · (repeat' first | exact trivial | exact rfl | refine And.intro ?_ ?_)
  intro v hv _
  subst hv
  intro _; refine ⟨fun g => ?_, fun g => ?_⟩
  · exfalso
    have g : (!decide (VA s)) = true := g
    rw [Bool.not_eq_true'] at g
    exact of_decide_eq_false g hV
  intro _; refine ⟨fun g => ?_, fun g => ?_⟩
  · exfalso
    have g := of_decide_eq_true (show decide (dir < 0) = true from g)
    omega
  intro _; refine ⟨fun g => ?_, fun g => ?_⟩
  · exfalso
    have g := of_decide_eq_true (show decide (dir > 1) = true from g)
    omega
  intro _
  refine call_new [] (levels_ok s dir hV hd) rfl rfl rfl rfl ?_ ?_ ?_
  · (repeat' first | exact trivial | exact rfl | refine And.intro ?_ ?_)
  · (repeat' first | exact trivial | exact rfl | refine And.intro ?_ ?_)
  intro v h' hv
  obtain ⟨l, hn, hm, rfl, rfl⟩ := hv
  refine ⟨[(0, some 0)], 1, [(0, .arr [.int .i64] .own (.ints l))], .grw 0 l.length, rfl, rfl, rfl, rfl, rfl, ?_, ?_, ?_⟩
  · (repeat' first | exact trivial | exact rfl | refine And.intro ?_ ?_)
  · (repeat' first | exact trivial | exact rfl | refine And.intro ?_ ?_)
  intro _
  exact ⟨l, hn, hm, rfl, rfl⟩
theorem law9 (s : List UInt8) (dir : Int) (hl : s.length ≤ 9223372036854775807) : SemF Try.prog 9 [.str s, .int .i64 dir] ⟨0, 0, []⟩ (fun v _ => IsTrue v) := by
  refine enter tt_ok Try.func9 (nt := 80) (cd := body Try.f9) rfl rfl rfl rfl ?_
  intro _
  refine head_ok rfl Try.func10 (cd := body Try.f10) rfl ?_
  intro _; refine ⟨fun g => ?_, fun g => ?_⟩
  · intro _
    rfl
  have h3 := of_decide_eq_false (show decide ((s.length : Int) > 300) = false from g)
  intro _
  refine call_pure [] (line_ok s dir hl) rfl rfl rfl ?_ ?_ ?_
  · (repeat' first | exact trivial | exact rfl | refine And.intro ?_ ?_)
  · (repeat' first | exact trivial | exact rfl | refine And.intro ?_ ?_)
  intro v hv _
  subst hv
  intro _; refine ⟨fun g => ?_, fun g => ?_⟩
  · intro _
    rfl
  have g : (!decide (VA s ∧ (dir = 0 ∨ dir = 1))) = false := g
  rw [Bool.not_eq_false'] at g
  obtain ⟨hV, hd⟩ := of_decide_eq_true g
  intro _
  refine call_new [] (Levels_ok s dir hV hd) rfl rfl rfl rfl ?_ ?_ ?_
  · (repeat' first | exact trivial | exact rfl | refine And.intro ?_ ?_)
  · (repeat' first | exact trivial | exact rfl | refine And.intro ?_ ?_)
  intro v h' hv
  obtain ⟨l, hn, hm, rfl, rfl⟩ := hv
  refine ⟨[(0, some 0)], 1, [(0, .arr [.int .i64] .own (.ints l))], .tup [.grw 0 l.length, .int .i64 0], rfl, rfl, rfl, rfl, rfl, ?_, ?_, ?_⟩
  · (repeat' first | exact trivial | exact rfl | refine And.intro ?_ ?_)
  · (repeat' first | exact trivial | exact rfl | refine And.intro ?_ ?_)
  intro _; refine ⟨fun g => absurd (show ((0 : Int) != 0) = true from g) (by decide), fun _ => ?_⟩
  intro _; refine ⟨fun g => ?_, fun g => ?_⟩
  · exfalso
    have g : ((l.length : Int) != (s.length : Int)) = true := g
    rw [hn] at g
    simp at g
  intro _
  refine loop2 tt_ok [39, 5] [] 1 (fun k : { k : Nat // k ≤ s.length } => [(39, .int .i64 (k.1 : Nat)), (5, .test true)]) (fun _ => []) (fun k => s.length - k.1) ⟨0, by omega⟩ ?_
  intro _
  refine ⟨⟨th [] 1, rfl, rfl, rfl, rfl, rfl, rfl, ?_, ?_⟩, ?_⟩
  · (repeat' first | exact trivial | exact rfl | refine And.intro ?_ ?_)
  · (repeat' first | exact trivial | exact rfl | refine And.intro ?_ ?_)
  intro ⟨k, hk⟩
  intro _; refine ⟨fun g => ?_, fun g => ?_⟩
  rotate_left
  · intro _
    rfl
  have hkl := of_decide_eq_true (show decide ((k : Int) < (l.length : Int)) = true from g)
  obtain ⟨m1, m2, m3, m4⟩ := hm k (by omega)
  have ek := (wrap_nat k (by omega)).symm
  intro _; refine ⟨show 0 ≤ (k : Int) ∧ (k : Int) < (l.length : Int) by omega, ?_⟩
  intro _; refine ⟨show (k : Int).toNat < l.length by omega, ?_⟩
  intro _; refine ⟨show 0 ≤ (k : Int) ∧ (k : Int) < (s.length : Int) by omega, ?_⟩
  intro _
  refine call_pure [] (rclass_ok (by' s k)) rfl rfl rfl ?_ ?_ ?_
  · (repeat' first | exact trivial | exact rfl | refine And.intro ?_ ?_)
  · (repeat' first | exact trivial | exact rfl | refine And.intro ?_ ?_)
  intro v hv _
  subst hv
  intro _; refine ⟨fun _ => ?_, fun g => absurd (show true = false from g) (by decide)⟩
  intro _; refine ⟨fun g => ?_, fun g => ?_⟩
  rotate_left
  · exfalso
    have := of_decide_eq_false (show decide (gt l k ≥ dir) = false from g)
    omega
  intro _; refine ⟨fun g => ?_, fun g => ?_⟩
  rotate_left
  · exfalso
    have := of_decide_eq_false (show decide (gt l k ≤ 2) = false from g)
    omega
  intro _; refine ⟨fun g => ?_, fun g => ?_⟩
  · have g : (cl (by' s k) != 2) = true := g
    intro _; refine ⟨fun g => ?_, fun g => ?_⟩
    rotate_left
    · have g : (cl (by' s k) != 1) = false := g
      have c1 : cl (by' s k) = 1 := by simpa using g
      refine ⟨⟨k + 1, by omega⟩, by simp only []; omega, th [] 1, rfl, rfl, rfl, rfl, rfl, rfl, ?_, ?_⟩
      · (repeat' first | exact trivial | exact rfl | refine And.intro ?_ ?_)
        · exact ek
        · show true = (gt l k != 1)
          exact (bne_iff_ne.2 (m2 (.inl c1))).symm
      · (repeat' first | exact trivial | exact rfl | refine And.intro ?_ ?_)
    intro _; refine ⟨fun g => ?_, fun g => ?_⟩
    · skip
      refine ⟨⟨k + 1, by omega⟩, by simp only []; omega, th [] 1, rfl, rfl, rfl, rfl, rfl, rfl, ?_, ?_⟩
      · (repeat' first | exact trivial | exact rfl | refine And.intro ?_ ?_)
        exact ek
      · (repeat' first | exact trivial | exact rfl | refine And.intro ?_ ?_)
    · have g : (cl (by' s k) != 3) = false := g
      have c3 : cl (by' s k) = 3 := by simpa using g
      refine ⟨⟨k + 1, by omega⟩, by simp only []; omega, th [] 1, rfl, rfl, rfl, rfl, rfl, rfl, ?_, ?_⟩
      · (repeat' first | exact trivial | exact rfl | refine And.intro ?_ ?_)
        · exact ek
        · show true = (gt l k != 1)
          exact (bne_iff_ne.2 (m2 (.inr c3))).symm
      · (repeat' first | exact trivial | exact rfl | refine And.intro ?_ ?_)
  · have g : (cl (by' s k) != 2) = false := g
    have c2 : cl (by' s k) = 2 := by simpa using g
    intro _; refine ⟨fun g => ?_, fun g => ?_⟩
    rotate_left
    · exfalso
      have g : (gt l k == 1) = false := g
      rw [m1 c2] at g
      simp at g
    intro _; refine ⟨fun g => ?_, fun g => ?_⟩
    rotate_left
    · have g : (cl (by' s k) != 1) = false := g
      have c1 : cl (by' s k) = 1 := by simpa using g
      refine ⟨⟨k + 1, by omega⟩, by simp only []; omega, th [] 1, rfl, rfl, rfl, rfl, rfl, rfl, ?_, ?_⟩
      · (repeat' first | exact trivial | exact rfl | refine And.intro ?_ ?_)
        · exact ek
        · show true = (gt l k != 1)
          exact (bne_iff_ne.2 (m2 (.inl c1))).symm
      · (repeat' first | exact trivial | exact rfl | refine And.intro ?_ ?_)
    intro _; refine ⟨fun g => ?_, fun g => ?_⟩
    · skip
      refine ⟨⟨k + 1, by omega⟩, by simp only []; omega, th [] 1, rfl, rfl, rfl, rfl, rfl, rfl, ?_, ?_⟩
      · (repeat' first | exact trivial | exact rfl | refine And.intro ?_ ?_)
        exact ek
      · (repeat' first | exact trivial | exact rfl | refine And.intro ?_ ?_)
    · have g : (cl (by' s k) != 3) = false := g
      have c3 : cl (by' s k) = 3 := by simpa using g
      refine ⟨⟨k + 1, by omega⟩, by simp only []; omega, th [] 1, rfl, rfl, rfl, rfl, rfl, rfl, ?_, ?_⟩
      · (repeat' first | exact trivial | exact rfl | refine And.intro ?_ ?_)
        · exact ek
        · show true = (gt l k != 1)
          exact (bne_iff_ne.2 (m2 (.inr c3))).symm
      · (repeat' first | exact trivial | exact rfl | refine And.intro ?_ ?_)

theorem walk (w : World) (s : List UInt8) (m_s : s.length ≤ maxLen) (dir : Int) (w_dir : (Lit.int .i64 dir).wf = true) :
    Calls Try.prog 9 #[.string ⟨s.toArray⟩, .int .i64 dir] w fun e w' => e = .returned (.bool true) ∧ Below w.heap.size w w' := by
  have h_s : s.length ≤ 9223372036854775807 := by unfold maxLen at m_s; omega
  have b_dir := w_dir
  simp [Lit.wf, IntKind.min, IntKind.max, IntKind.signed, IntKind.bits] at b_dir
  exact top_run (by kernel_rfl) (by kernel_rfl) (T := [10]) (fun f hf w => by
      rcases List.mem_cons.1 hf with e | e
      · subst e; exact head w
      · exact (List.not_mem_nil e).elim) (l := []) (args := [.str s, .int .i64 dir]) («as» := [.str s, .int .i64 dir]) (cargs := [.string ⟨s.toArray⟩, .int .i64 dir]) w
    (fun s h => by
      exact (List.not_mem_nil h).elim)
    (Cvs.cons mk_str (Cvs.cons mk_int Cvs.nil))
    (by simp only [Go.Vm.convs, Go.Vm.conv])
    ((law9 s dir h_s))

set_option maxRecDepth 100000 in
theorem lifted (os : Os) (started : os.Started) (H : Type) (enc : TypeId × Value → H) :
    ReturnsInHanded {} Try.checked os 9 .any (Rows.bidiLevelsSpec.pre6 enc Try.prog Try.f9 Rows.bidiLevelsRow.domain false) (Rows.bidiLevelsSpec.post enc Try.prog Try.f9 false true false false) := by
  refine returnsInHanded_of_change (C := Try.checked) own started (by kernel_rfl) Try.func9
    (ChangeSpec.witness6 (enc := enc) (C := Try.checked) false ⟨#[], #[.string ⟨#[]⟩, .int .i64 0], []⟩ 8 (by kernel_rfl) (by kernel_rfl) (by kernel_rfl) (by kernel_rfl)) ?_
  intro W base args ds gs before hval0 hW hcnd _
  have hval : ∀ (j : Nat) t v, Try.f9.params[j]? = some t → args[j]? = some v → Value.okWide Try.prog W .any base t v := hval0
  have hW' := hW
  obtain ⟨p, q, hA0, hV, rfl, hfz, hnd⟩ := hW
  have hA : DataW.TrodAll enc Try.prog W 0 (fun _ => true) true Try.f9.params.toList args.toList ds p := hA0
  rw [Try.params9] at hA hval
  obtain ⟨v0, vs0, d0, ds0, p0, q0, hargs, rfl, rfl, h0, r0⟩ := trodAll_cons hA
  obtain ⟨v1, vs1, d1, ds1, p1, q1, rfl, rfl, rfl, h1, r1⟩ := trodAll_cons r0
  obtain ⟨rfl, rfl, rfl⟩ := trodAll_nil r1
  obtain rfl : args = #[v0, v1] := by cases args; simp_all
  obtain ⟨rfl, rfl⟩ := trodVars_none hV
  obtain ⟨sb_s, rfl, rfl, rfl, m0_s⟩ := Go.ChangeMaps.open_string Try.underlying9 (hval 0 9 v0 rfl rfl) h0
  obtain ⟨s, rfl⟩ : ∃ a : List UInt8, sb_s = ⟨a.toArray⟩ := ⟨sb_s.data.toList, by cases sb_s; simp⟩
  obtain ⟨dir, rfl, rfl, rfl, w_dir⟩ := open_int Try.underlying3 (hval 1 3 v1 rfl rfl) h1
  clear hA0 hval0
  refine (walk W s (by simpa [ByteArray.size] using m0_s) dir w_dir).mono fun e W' ⟨he, hg⟩ => ?_
  subst he
  exact ⟨_, rfl, _, _, _, [], _, [], hW', trodAll_cons_mk (shut_bool Try.underlying4 _) trodAll_mk0, (trodAll_cons_mk (Go.ChangeMaps.shut_string Try.underlying9 m0_s) (trodAll_cons_mk (shut_int Try.underlying3 w_dir) trodAll_mk0)), rfl, hg.frame _, fun h => by cases h⟩

theorem over : Rows.bidiLevelsRow.holds Try.pinned (OpenSpec.ofChange Rows.bidiLevelsSpec) :=
  OpenClaim.holds_of_wide 9 Try.f9 rfl rfl rfl rfl rfl rfl rfl ⟨rfl, rfl, rfl, rfl, rfl⟩ rfl rfl rfl rfl rfl (by kernel_rfl) Try.func9 (by kernel_rfl)
    (of_decide_eq_true (by kernel_rfl)) (by unfold Func.isWrapper; first | (rw [if_pos (by decide +kernel)]; kernel_rfl) | (rw [if_neg (by decide +kernel)]; exact ⟨rfl, rfl⟩))
    (fun os started H enc _ => lifted os started H enc)

/-- the statement -/
theorem proved : Rows.BidiLevelsSaid :=
  over
#print axioms proved
end Go.Proofs.Ytjncagdiligikaa.bidiLevels
