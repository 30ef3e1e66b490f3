/-
  FontAdvances: whatever the arguments, the law returns true, and its arguments read as before. No conditions.
-/
import Derived.Test.YtejlcpjbhnajbaaRows
import Derived.Test.YtejlcpjbhnajbaaVwOpen2
import Derived.Test.YtejlcpjbhnajbaaVwRules6
import Derived.Test.YtejlcpjbhnajbaaVmSym
import Derived.WalkKit
import Derived.ProofKit
import Derived.OpenShut
import Derived.Carry
import Derived.ChangeMaps5
import Derived.Laws.RangeAny
namespace Go.Proofs.Ytejlcpjbhnajbaa.fontAdvances
open Go.ChangeShapes Go.WideShapes Go.ChangeAt Go.RowKit
open Go.Vm (Facts Val Sound)
open Go.Vm2
set_option linter.unusedVariables false
set_option linter.unusedSectionVars false

theorem own : ownKnob Try.prog.godebug = none := by kernel_rfl
theorem laidOut : laidOutB Try.prog = true := by kernel_rfl
def ts : List Nat := [25, 9, 4, 29, 3, 37, 5, 41, 22, 46, 23, 48, 21, 78]
def tt : Go.Vm2.TT := [
  (25, ⟨(.struct [⟨0, 1, false⟩, ⟨1, 1, false⟩]), true, 2, .agg [.nils, .nils], false⟩),
  (9, ⟨.string, false, 1, .str [], true⟩),
  (4, ⟨.bool, false, 1, .bool false, true⟩),
  (29, ⟨(.int .i64), false, 1, .int .i64 (0), true⟩),
  (3, ⟨(.int .i64), false, 1, .int .i64 (0), true⟩),
  (37, ⟨(.slice 5 1 1 [.int .u8]), false, 1, .nils, true⟩),
  (5, ⟨(.int .u8), false, 1, .int .u8 (0), true⟩),
  (41, ⟨(.int .u16), false, 1, .int .u16 (0), true⟩),
  (22, ⟨(.slice 46 2 16 [.int .u8, .int .i64]), false, 1, .nils, true⟩),
  (46, ⟨(.struct [⟨0, 1, false⟩, ⟨1, 1, false⟩]), true, 2, .agg [.int .u8 (0), .int .i64 (0)], true⟩),
  (23, ⟨(.slice 48 3 16 [.int .u8, .int .u8, .int .i64]), false, 1, .nils, true⟩),
  (48, ⟨(.struct [⟨0, 1, false⟩, ⟨1, 1, false⟩, ⟨2, 1, false⟩]), true, 3, .agg [.int .u8 (0), .int .u8 (0), .int .i64 (0)], true⟩),
  (21, ⟨(.int .i32), false, 1, .int .i32 (0), true⟩),
  (78, ⟨(.slice 3 1 8 [.int .i64]), false, 1, .nils, true⟩)]
theorem tt_mk : mkTT Try.prog ts = some tt := by kernel_rfl
theorem head (w : World) : Calls Try.prog 8 #[] w fun e w' => e = .returned (.bool true) ∧ Below w.heap.size w w' :=
  Go.Vm.head_run (by kernel_rfl) (by kernel_rfl) (n := 1000000) (by kernel_rfl) w
instance facts : Facts := ⟨[], [8], false⟩
instance val : Val := ⟨fun _ => 0⟩
instance sound : Sound := ⟨fun f hf => (List.not_mem_nil hf).elim⟩
theorem tt_ok : TTok Try.prog tt := ttok_mk tt_mk
def body (f : Func) : Code := match f.body with | some c => c | none => .skip
set_option maxRecDepth 100000
theorem wrap_nat (k : Nat) (h : k < 9223372036854775807) : IntKind.i64.wrap ((k : Int) + 1) = ((k + 1 : Nat) : Int) := by
  rw [IntKind.wrap_i64]; omega
theorem wrapS (n : Int) (h : -9000000000000000000 ≤ n ∧ n ≤ 9000000000000000000) : IntKind.i64.wrap n = n := by rw [IntKind.wrap_i64]; omega
/-! classes of bytes -/
def cl (n : Int) : Int := if 97 ≤ n ∧ n ≤ 122 then 1 else if 65 ≤ n ∧ n ≤ 90 then 2 else if 48 ≤ n ∧ n ≤ 57 then 3 else if n = 32 then 4 else if n = 126 then 6 else if 32 < n ∧ n < 126 then 5 else 0
theorem cl_high {n : Int} (h : 128 ≤ n) : cl n = 0 := by unfold cl; repeat' split
                                                         all_goals omega
theorem rclass_ok (n : Int) : SemF Try.prog 34 [.int .u8 n] ⟨0, 0, []⟩ (fun v _ => v = .int .i64 (cl n) ∧ nameless v = true) := by
  refine enter tt_ok Try.func34 (nt := 31) (cd := body Try.f34) rfl rfl rfl rfl ?_
  intro _; refine ⟨fun g => ?_, fun g => ?_⟩
  · have g := of_decide_eq_true (show decide (n ≥ 97) = true from g)
    intro _; refine ⟨fun g => ?_, fun g => ?_⟩
    · have g := of_decide_eq_true (show decide (n ≤ 122) = true from g)
      intro _
      exact ⟨by rw [show cl n = 1 by (unfold cl; repeat' split) <;> omega], rfl⟩
    · have g := of_decide_eq_false (show decide (n ≤ 122) = false from g)
      intro _; refine ⟨fun g => ?_, fun g => ?_⟩
      · have g := of_decide_eq_true (show decide (n ≥ 65) = true from g)
        intro _; refine ⟨fun g => ?_, fun g => ?_⟩
        · have g := of_decide_eq_true (show decide (n ≤ 90) = true from g)
          intro _
          exact ⟨by rw [show cl n = 2 by (unfold cl; repeat' split) <;> omega], rfl⟩
        · have g := of_decide_eq_false (show decide (n ≤ 90) = false from g)
          intro _; refine ⟨fun g => ?_, fun g => ?_⟩
          · have g := of_decide_eq_true (show decide (n ≥ 48) = true from g)
            intro _; refine ⟨fun g => ?_, fun g => ?_⟩
            · have g := of_decide_eq_true (show decide (n ≤ 57) = true from g)
              intro _
              exact ⟨by rw [show cl n = 3 by (unfold cl; repeat' split) <;> omega], rfl⟩
            · have g := of_decide_eq_false (show decide (n ≤ 57) = false from g)
              intro _; refine ⟨fun g => ?_, fun g => ?_⟩
              · have g : (n == 32) = true := g
                have g : n = 32 := by simpa using g
                intro _
                exact ⟨by rw [show cl n = 4 by (unfold cl; repeat' split) <;> omega], rfl⟩
              · have g : (n == 32) = false := g
                have g : ¬ n = 32 := by simpa using g
                intro _; refine ⟨fun g => ?_, fun g => ?_⟩
                · have g : (n == 126) = true := g
                  have g : n = 126 := by simpa using g
                  intro _
                  exact ⟨by rw [show cl n = 6 by (unfold cl; repeat' split) <;> omega], rfl⟩
                · have g : (n == 126) = false := g
                  have g : ¬ n = 126 := by simpa using g
                  intro _; refine ⟨fun g => ?_, fun g => ?_⟩
                  · have g := of_decide_eq_true (show decide (n > 32) = true from g)
                    intro _; refine ⟨fun g => ?_, fun g => ?_⟩
                    · have g := of_decide_eq_true (show decide (n < 126) = true from g)
                      intro _
                      exact ⟨by rw [show cl n = 5 by (unfold cl; repeat' split) <;> omega], rfl⟩
                    · have g := of_decide_eq_false (show decide (n < 126) = false from g)
                      intro _
                      exact ⟨by rw [show cl n = 0 by (unfold cl; repeat' split) <;> omega], rfl⟩
                  · have g := of_decide_eq_false (show decide (n > 32) = false from g)
                    intro _
                    exact ⟨by rw [show cl n = 0 by (unfold cl; repeat' split) <;> omega], rfl⟩
          · have g := of_decide_eq_false (show decide (n ≥ 48) = false from g)
            intro _; refine ⟨fun g => ?_, fun g => ?_⟩
            · have g : (n == 32) = true := g
              have g : n = 32 := by simpa using g
              intro _
              exact ⟨by rw [show cl n = 4 by (unfold cl; repeat' split) <;> omega], rfl⟩
            · have g : (n == 32) = false := g
              have g : ¬ n = 32 := by simpa using g
              intro _; refine ⟨fun g => ?_, fun g => ?_⟩
              · have g : (n == 126) = true := g
                have g : n = 126 := by simpa using g
                intro _
                exact ⟨by rw [show cl n = 6 by (unfold cl; repeat' split) <;> omega], rfl⟩
              · have g : (n == 126) = false := g
                have g : ¬ n = 126 := by simpa using g
                intro _; refine ⟨fun g => ?_, fun g => ?_⟩
                · have g := of_decide_eq_true (show decide (n > 32) = true from g)
                  intro _; refine ⟨fun g => ?_, fun g => ?_⟩
                  · have g := of_decide_eq_true (show decide (n < 126) = true from g)
                    intro _
                    exact ⟨by rw [show cl n = 5 by (unfold cl; repeat' split) <;> omega], rfl⟩
                  · have g := of_decide_eq_false (show decide (n < 126) = false from g)
                    intro _
                    exact ⟨by rw [show cl n = 0 by (unfold cl; repeat' split) <;> omega], rfl⟩
                · have g := of_decide_eq_false (show decide (n > 32) = false from g)
                  intro _
                  exact ⟨by rw [show cl n = 0 by (unfold cl; repeat' split) <;> omega], rfl⟩
      · have g := of_decide_eq_false (show decide (n ≥ 65) = false from g)
        intro _; refine ⟨fun g => ?_, fun g => ?_⟩
        · have g := of_decide_eq_true (show decide (n ≥ 48) = true from g)
          intro _; refine ⟨fun g => ?_, fun g => ?_⟩
          · have g := of_decide_eq_true (show decide (n ≤ 57) = true from g)
            intro _
            exact ⟨by rw [show cl n = 3 by (unfold cl; repeat' split) <;> omega], rfl⟩
          · have g := of_decide_eq_false (show decide (n ≤ 57) = false from g)
            intro _; refine ⟨fun g => ?_, fun g => ?_⟩
            · have g : (n == 32) = true := g
              have g : n = 32 := by simpa using g
              intro _
              exact ⟨by rw [show cl n = 4 by (unfold cl; repeat' split) <;> omega], rfl⟩
            · have g : (n == 32) = false := g
              have g : ¬ n = 32 := by simpa using g
              intro _; refine ⟨fun g => ?_, fun g => ?_⟩
              · have g : (n == 126) = true := g
                have g : n = 126 := by simpa using g
                intro _
                exact ⟨by rw [show cl n = 6 by (unfold cl; repeat' split) <;> omega], rfl⟩
              · have g : (n == 126) = false := g
                have g : ¬ n = 126 := by simpa using g
                intro _; refine ⟨fun g => ?_, fun g => ?_⟩
                · have g := of_decide_eq_true (show decide (n > 32) = true from g)
                  intro _; refine ⟨fun g => ?_, fun g => ?_⟩
                  · have g := of_decide_eq_true (show decide (n < 126) = true from g)
                    intro _
                    exact ⟨by rw [show cl n = 5 by (unfold cl; repeat' split) <;> omega], rfl⟩
                  · have g := of_decide_eq_false (show decide (n < 126) = false from g)
                    intro _
                    exact ⟨by rw [show cl n = 0 by (unfold cl; repeat' split) <;> omega], rfl⟩
                · have g := of_decide_eq_false (show decide (n > 32) = false from g)
                  intro _
                  exact ⟨by rw [show cl n = 0 by (unfold cl; repeat' split) <;> omega], rfl⟩
        · have g := of_decide_eq_false (show decide (n ≥ 48) = false from g)
          intro _; refine ⟨fun g => ?_, fun g => ?_⟩
          · have g : (n == 32) = true := g
            have g : n = 32 := by simpa using g
            intro _
            exact ⟨by rw [show cl n = 4 by (unfold cl; repeat' split) <;> omega], rfl⟩
          · have g : (n == 32) = false := g
            have g : ¬ n = 32 := by simpa using g
            intro _; refine ⟨fun g => ?_, fun g => ?_⟩
            · have g : (n == 126) = true := g
              have g : n = 126 := by simpa using g
              intro _
              exact ⟨by rw [show cl n = 6 by (unfold cl; repeat' split) <;> omega], rfl⟩
            · have g : (n == 126) = false := g
              have g : ¬ n = 126 := by simpa using g
              intro _; refine ⟨fun g => ?_, fun g => ?_⟩
              · have g := of_decide_eq_true (show decide (n > 32) = true from g)
                intro _; refine ⟨fun g => ?_, fun g => ?_⟩
                · have g := of_decide_eq_true (show decide (n < 126) = true from g)
                  intro _
                  exact ⟨by rw [show cl n = 5 by (unfold cl; repeat' split) <;> omega], rfl⟩
                · have g := of_decide_eq_false (show decide (n < 126) = false from g)
                  intro _
                  exact ⟨by rw [show cl n = 0 by (unfold cl; repeat' split) <;> omega], rfl⟩
              · have g := of_decide_eq_false (show decide (n > 32) = false from g)
                intro _
                exact ⟨by rw [show cl n = 0 by (unfold cl; repeat' split) <;> omega], rfl⟩
  · have g := of_decide_eq_false (show decide (n ≥ 97) = false from g)
    intro _; refine ⟨fun g => ?_, fun g => ?_⟩
    · have g := of_decide_eq_true (show decide (n ≥ 65) = true from g)
      intro _; refine ⟨fun g => ?_, fun g => ?_⟩
      · have g := of_decide_eq_true (show decide (n ≤ 90) = true from g)
        intro _
        exact ⟨by rw [show cl n = 2 by (unfold cl; repeat' split) <;> omega], rfl⟩
      · have g := of_decide_eq_false (show decide (n ≤ 90) = false from g)
        intro _; refine ⟨fun g => ?_, fun g => ?_⟩
        · have g := of_decide_eq_true (show decide (n ≥ 48) = true from g)
          intro _; refine ⟨fun g => ?_, fun g => ?_⟩
          · have g := of_decide_eq_true (show decide (n ≤ 57) = true from g)
            intro _
            exact ⟨by rw [show cl n = 3 by (unfold cl; repeat' split) <;> omega], rfl⟩
          · have g := of_decide_eq_false (show decide (n ≤ 57) = false from g)
            intro _; refine ⟨fun g => ?_, fun g => ?_⟩
            · have g : (n == 32) = true := g
              have g : n = 32 := by simpa using g
              intro _
              exact ⟨by rw [show cl n = 4 by (unfold cl; repeat' split) <;> omega], rfl⟩
            · have g : (n == 32) = false := g
              have g : ¬ n = 32 := by simpa using g
              intro _; refine ⟨fun g => ?_, fun g => ?_⟩
              · have g : (n == 126) = true := g
                have g : n = 126 := by simpa using g
                intro _
                exact ⟨by rw [show cl n = 6 by (unfold cl; repeat' split) <;> omega], rfl⟩
              · have g : (n == 126) = false := g
                have g : ¬ n = 126 := by simpa using g
                intro _; refine ⟨fun g => ?_, fun g => ?_⟩
                · have g := of_decide_eq_true (show decide (n > 32) = true from g)
                  intro _; refine ⟨fun g => ?_, fun g => ?_⟩
                  · have g := of_decide_eq_true (show decide (n < 126) = true from g)
                    intro _
                    exact ⟨by rw [show cl n = 5 by (unfold cl; repeat' split) <;> omega], rfl⟩
                  · have g := of_decide_eq_false (show decide (n < 126) = false from g)
                    intro _
                    exact ⟨by rw [show cl n = 0 by (unfold cl; repeat' split) <;> omega], rfl⟩
                · have g := of_decide_eq_false (show decide (n > 32) = false from g)
                  intro _
                  exact ⟨by rw [show cl n = 0 by (unfold cl; repeat' split) <;> omega], rfl⟩
        · have g := of_decide_eq_false (show decide (n ≥ 48) = false from g)
          intro _; refine ⟨fun g => ?_, fun g => ?_⟩
          · have g : (n == 32) = true := g
            have g : n = 32 := by simpa using g
            intro _
            exact ⟨by rw [show cl n = 4 by (unfold cl; repeat' split) <;> omega], rfl⟩
          · have g : (n == 32) = false := g
            have g : ¬ n = 32 := by simpa using g
            intro _; refine ⟨fun g => ?_, fun g => ?_⟩
            · have g : (n == 126) = true := g
              have g : n = 126 := by simpa using g
              intro _
              exact ⟨by rw [show cl n = 6 by (unfold cl; repeat' split) <;> omega], rfl⟩
            · have g : (n == 126) = false := g
              have g : ¬ n = 126 := by simpa using g
              intro _; refine ⟨fun g => ?_, fun g => ?_⟩
              · have g := of_decide_eq_true (show decide (n > 32) = true from g)
                intro _; refine ⟨fun g => ?_, fun g => ?_⟩
                · have g := of_decide_eq_true (show decide (n < 126) = true from g)
                  intro _
                  exact ⟨by rw [show cl n = 5 by (unfold cl; repeat' split) <;> omega], rfl⟩
                · have g := of_decide_eq_false (show decide (n < 126) = false from g)
                  intro _
                  exact ⟨by rw [show cl n = 0 by (unfold cl; repeat' split) <;> omega], rfl⟩
              · have g := of_decide_eq_false (show decide (n > 32) = false from g)
                intro _
                exact ⟨by rw [show cl n = 0 by (unfold cl; repeat' split) <;> omega], rfl⟩
    · have g := of_decide_eq_false (show decide (n ≥ 65) = false from g)
      intro _; refine ⟨fun g => ?_, fun g => ?_⟩
      · have g := of_decide_eq_true (show decide (n ≥ 48) = true from g)
        intro _; refine ⟨fun g => ?_, fun g => ?_⟩
        · have g := of_decide_eq_true (show decide (n ≤ 57) = true from g)
          intro _
          exact ⟨by rw [show cl n = 3 by (unfold cl; repeat' split) <;> omega], rfl⟩
        · have g := of_decide_eq_false (show decide (n ≤ 57) = false from g)
          intro _; refine ⟨fun g => ?_, fun g => ?_⟩
          · have g : (n == 32) = true := g
            have g : n = 32 := by simpa using g
            intro _
            exact ⟨by rw [show cl n = 4 by (unfold cl; repeat' split) <;> omega], rfl⟩
          · have g : (n == 32) = false := g
            have g : ¬ n = 32 := by simpa using g
            intro _; refine ⟨fun g => ?_, fun g => ?_⟩
            · have g : (n == 126) = true := g
              have g : n = 126 := by simpa using g
              intro _
              exact ⟨by rw [show cl n = 6 by (unfold cl; repeat' split) <;> omega], rfl⟩
            · have g : (n == 126) = false := g
              have g : ¬ n = 126 := by simpa using g
              intro _; refine ⟨fun g => ?_, fun g => ?_⟩
              · have g := of_decide_eq_true (show decide (n > 32) = true from g)
                intro _; refine ⟨fun g => ?_, fun g => ?_⟩
                · have g := of_decide_eq_true (show decide (n < 126) = true from g)
                  intro _
                  exact ⟨by rw [show cl n = 5 by (unfold cl; repeat' split) <;> omega], rfl⟩
                · have g := of_decide_eq_false (show decide (n < 126) = false from g)
                  intro _
                  exact ⟨by rw [show cl n = 0 by (unfold cl; repeat' split) <;> omega], rfl⟩
              · have g := of_decide_eq_false (show decide (n > 32) = false from g)
                intro _
                exact ⟨by rw [show cl n = 0 by (unfold cl; repeat' split) <;> omega], rfl⟩
      · have g := of_decide_eq_false (show decide (n ≥ 48) = false from g)
        intro _; refine ⟨fun g => ?_, fun g => ?_⟩
        · have g : (n == 32) = true := g
          have g : n = 32 := by simpa using g
          intro _
          exact ⟨by rw [show cl n = 4 by (unfold cl; repeat' split) <;> omega], rfl⟩
        · have g : (n == 32) = false := g
          have g : ¬ n = 32 := by simpa using g
          intro _; refine ⟨fun g => ?_, fun g => ?_⟩
          · have g : (n == 126) = true := g
            have g : n = 126 := by simpa using g
            intro _
            exact ⟨by rw [show cl n = 6 by (unfold cl; repeat' split) <;> omega], rfl⟩
          · have g : (n == 126) = false := g
            have g : ¬ n = 126 := by simpa using g
            intro _; refine ⟨fun g => ?_, fun g => ?_⟩
            · have g := of_decide_eq_true (show decide (n > 32) = true from g)
              intro _; refine ⟨fun g => ?_, fun g => ?_⟩
              · have g := of_decide_eq_true (show decide (n < 126) = true from g)
                intro _
                exact ⟨by rw [show cl n = 5 by (unfold cl; repeat' split) <;> omega], rfl⟩
              · have g := of_decide_eq_false (show decide (n < 126) = false from g)
                intro _
                exact ⟨by rw [show cl n = 0 by (unfold cl; repeat' split) <;> omega], rfl⟩
            · have g := of_decide_eq_false (show decide (n > 32) = false from g)
              intro _
              exact ⟨by rw [show cl n = 0 by (unfold cl; repeat' split) <;> omega], rfl⟩
theorem dig_test (n : Int) (h : H) (K : V → H → Prop) (hK : K (.test (decide (48 ≤ n ∧ n ≤ 57))) h) : SemF Try.prog 46 [.int .i32 n] h K := by
  refine SemF.test ?_
  refine enter tt_ok Try.func46 (nt := 9) (cd := body Try.f46) rfl rfl rfl rfl ?_
  intro _; refine ⟨fun g => ?_, fun g => ?_⟩
  · have g := of_decide_eq_true (show decide (n ≥ 48) = true from g)
    intro _
    refine ⟨_, .inr rfl, ?_⟩
    have : decide (48 ≤ n ∧ n ≤ 57) = decide (n ≤ 57) := by
      by_cases e : n ≤ 57
      · rw [decide_eq_true e, decide_eq_true (show 48 ≤ n ∧ n ≤ 57 from ⟨by omega, e⟩)]
      · rw [decide_eq_false e, decide_eq_false (fun m => e m.2)]
    rw [← this]; exact hK
  · have g := of_decide_eq_false (show decide (n ≥ 48) = false from g)
    intro _
    refine ⟨false, .inl rfl, ?_⟩
    have : decide (48 ≤ n ∧ n ≤ 57) = false := decide_eq_false (fun m => by have := m.1; omega)
    rw [← this]; exact hK
theorem cap_test (n : Int) (h : H) (K : V → H → Prop) (hK : K (.test (decide (65 ≤ n ∧ n ≤ 90))) h) : SemF Try.prog 47 [.int .i32 n] h K := by
  refine SemF.test ?_
  refine enter tt_ok Try.func47 (nt := 9) (cd := body Try.f47) rfl rfl rfl rfl ?_
  intro _; refine ⟨fun g => ?_, fun g => ?_⟩
  · have g := of_decide_eq_true (show decide (n ≥ 65) = true from g)
    intro _
    refine ⟨_, .inr rfl, ?_⟩
    have : decide (65 ≤ n ∧ n ≤ 90) = decide (n ≤ 90) := by
      by_cases e : n ≤ 90
      · rw [decide_eq_true e, decide_eq_true (show 65 ≤ n ∧ n ≤ 90 from ⟨by omega, e⟩)]
      · rw [decide_eq_false e, decide_eq_false (fun m => e m.2)]
    rw [← this]; exact hK
  · have g := of_decide_eq_false (show decide (n ≥ 65) = false from g)
    intro _
    refine ⟨false, .inl rfl, ?_⟩
    have : decide (65 ≤ n ∧ n ≤ 90) = false := decide_eq_false (fun m => by have := m.1; omega)
    rw [← this]; exact hK
theorem sml_test (n : Int) (h : H) (K : V → H → Prop) (hK : K (.test (decide (97 ≤ n ∧ n ≤ 122))) h) : SemF Try.prog 48 [.int .i32 n] h K := by
  refine SemF.test ?_
  refine enter tt_ok Try.func48 (nt := 9) (cd := body Try.f48) rfl rfl rfl rfl ?_
  intro _; refine ⟨fun g => ?_, fun g => ?_⟩
  · have g := of_decide_eq_true (show decide (n ≥ 97) = true from g)
    intro _
    refine ⟨_, .inr rfl, ?_⟩
    have : decide (97 ≤ n ∧ n ≤ 122) = decide (n ≤ 122) := by
      by_cases e : n ≤ 122
      · rw [decide_eq_true e, decide_eq_true (show 97 ≤ n ∧ n ≤ 122 from ⟨by omega, e⟩)]
      · rw [decide_eq_false e, decide_eq_false (fun m => e m.2)]
    rw [← this]; exact hK
  · have g := of_decide_eq_false (show decide (n ≥ 97) = false from g)
    intro _
    refine ⟨false, .inl rfl, ?_⟩
    have : decide (97 ≤ n ∧ n ≤ 122) = false := decide_eq_false (fun m => by have := m.1; omega)
    rw [← this]; exact hK
def sg (n : Int) : Bool := decide (32 < n ∧ n < 126 ∧ ¬ (97 ≤ n ∧ n ≤ 122) ∧ ¬ (65 ≤ n ∧ n ≤ 90) ∧ ¬ (48 ≤ n ∧ n ≤ 57))
theorem sign_test (n : Int) (h : H) (K : V → H → Prop) (hK : K (.test (sg n)) h) : SemF Try.prog 45 [.int .i32 n] h K := by
  refine SemF.test ?_
  refine enter tt_ok Try.func45 (nt := 24) (cd := body Try.f45) rfl rfl rfl rfl ?_
  have no : ∀ P : Prop, (sg n = true → P) → ¬ P → ∃ b, (V.bool false = .bool b ∨ V.bool false = .test b) ∧ K (.test b) h := fun P h1 h2 => ⟨false, .inl rfl, by
    have : sg n = false := by
      cases e : sg n with
      | false => rfl
      | true => exact absurd (h1 e) h2
    rw [← this]; exact hK⟩
  have un : sg n = true → (32 < n ∧ n < 126 ∧ ¬ (97 ≤ n ∧ n ≤ 122) ∧ ¬ (65 ≤ n ∧ n ≤ 90) ∧ ¬ (48 ≤ n ∧ n ≤ 57)) := fun h => of_decide_eq_true h
  intro _; refine ⟨fun g => ?_, fun g => ?_⟩
  rotate_left
  · have g := of_decide_eq_false (show decide (n > 32) = false from g)
    intro _
    exact no (32 < n) (fun h => (un h).1) (by omega)
  have g1 := of_decide_eq_true (show decide (n > 32) = true from g)
  intro _; refine ⟨fun g => ?_, fun g => ?_⟩
  rotate_left
  · have g := of_decide_eq_false (show decide (n < 126) = false from g)
    intro _
    exact no (n < 126) (fun h => (un h).2.1) (by omega)
  have g2 := of_decide_eq_true (show decide (n < 126) = true from g)
  intro _
  refine sml_test _ _ _ ?_
  intro _; refine ⟨fun g => ?_, fun g => ?_⟩
  rotate_left
  · have g : (!decide (97 ≤ n ∧ n ≤ 122)) = false := g
    rw [Bool.not_eq_false'] at g
    have g := of_decide_eq_true g
    intro _
    exact no (¬ (97 ≤ n ∧ n ≤ 122)) (fun h => (un h).2.2.1) (fun h => h g)
  have g : (!decide (97 ≤ n ∧ n ≤ 122)) = true := g
  rw [Bool.not_eq_true'] at g
  have g3 := of_decide_eq_false g
  intro _
  refine cap_test _ _ _ ?_
  intro _; refine ⟨fun g => ?_, fun g => ?_⟩
  rotate_left
  · have g : (!decide (65 ≤ n ∧ n ≤ 90)) = false := g
    rw [Bool.not_eq_false'] at g
    have g := of_decide_eq_true g
    intro _
    exact no (¬ (65 ≤ n ∧ n ≤ 90)) (fun h => (un h).2.2.2.1) (fun h => h g)
  have g : (!decide (65 ≤ n ∧ n ≤ 90)) = true := g
  rw [Bool.not_eq_true'] at g
  have g4 := of_decide_eq_false g
  intro _
  refine dig_test _ _ _ ?_
  intro _
  refine ⟨_, .inr rfl, ?_⟩
  have : sg n = !decide (48 ≤ n ∧ n ≤ 57) := by
    by_cases e : 48 ≤ n ∧ n ≤ 57
    · rw [decide_eq_true e]; exact decide_eq_false (fun h => h.2.2.2.2 e)
    · rw [decide_eq_false e]; exact decide_eq_true ⟨g1, g2, g3, g4, e⟩
  rw [← this]; exact hK
theorem class_ok (n : Int) : SemF Try.prog 35 [.int .i32 n] ⟨0, 0, []⟩ (fun v _ => v = .int .i64 (cl n) ∧ nameless v = true) := by
  refine enter tt_ok Try.func35 (nt := 35) (cd := body Try.f35) rfl rfl rfl rfl ?_
  intro _; refine ⟨fun g => ?_, fun g => ?_⟩
  · have g : (n == 126) = true := g
    have g : n = 126 := by simpa using g
    intro _
    refine ⟨?_, rfl⟩
    rw [show cl n = 6 by (unfold cl; repeat' split) <;> omega]
    rfl
  have g : (n == 126) = false := g
  have g6 : ¬ n = 126 := by simpa using g
  intro _
  refine sign_test _ _ _ ?_
  intro _; refine ⟨fun g => ?_, fun g => ?_⟩
  · have g := of_decide_eq_true (show decide (32 < n ∧ n < 126 ∧ ¬ (97 ≤ n ∧ n ≤ 122) ∧ ¬ (65 ≤ n ∧ n ≤ 90) ∧ ¬ (48 ≤ n ∧ n ≤ 57)) = true from g)
    intro _
    refine ⟨?_, rfl⟩
    rw [show cl n = 5 by (unfold cl; repeat' split) <;> omega]
    rfl
  have g5 := of_decide_eq_false (show decide (32 < n ∧ n < 126 ∧ ¬ (97 ≤ n ∧ n ≤ 122) ∧ ¬ (65 ≤ n ∧ n ≤ 90) ∧ ¬ (48 ≤ n ∧ n ≤ 57)) = false from g)
  intro _; refine ⟨fun g => ?_, fun g => ?_⟩
  · have g : (n == 32) = true := g
    have g : n = 32 := by simpa using g
    intro _
    refine ⟨?_, rfl⟩
    rw [show cl n = 4 by (unfold cl; repeat' split) <;> omega]
    rfl
  have g : (n == 32) = false := g
  have g4 : ¬ n = 32 := by simpa using g
  intro _
  refine dig_test _ _ _ ?_
  intro _; refine ⟨fun g => ?_, fun g => ?_⟩
  · have g := of_decide_eq_true (show decide (48 ≤ n ∧ n ≤ 57) = true from g)
    intro _
    refine ⟨?_, rfl⟩
    rw [show cl n = 3 by (unfold cl; repeat' split) <;> omega]
    rfl
  have g3 := of_decide_eq_false (show decide (48 ≤ n ∧ n ≤ 57) = false from g)
  intro _
  refine cap_test _ _ _ ?_
  intro _; refine ⟨fun g => ?_, fun g => ?_⟩
  · have g := of_decide_eq_true (show decide (65 ≤ n ∧ n ≤ 90) = true from g)
    intro _
    refine ⟨?_, rfl⟩
    rw [show cl n = 2 by (unfold cl; repeat' split) <;> omega]
    rfl
  have g2 := of_decide_eq_false (show decide (65 ≤ n ∧ n ≤ 90) = false from g)
  intro _
  refine sml_test _ _ _ ?_
  intro _; refine ⟨fun g => ?_, fun g => ?_⟩
  · have g := of_decide_eq_true (show decide (97 ≤ n ∧ n ≤ 122) = true from g)
    intro _
    refine ⟨?_, rfl⟩
    rw [show cl n = 1 by (unfold cl; repeat' split) <;> omega]
    rfl
  have g1 := of_decide_eq_false (show decide (97 ≤ n ∧ n ≤ 122) = false from g)
  intro _
  refine ⟨?_, rfl⟩
  rw [show cl n = 0 by (unfold cl; repeat' split) <;> omega]
/-! texts -/
def by' (s : List UInt8) (i : Nat) : Int := ((s.getD i 0).toNat : Int)
def VA (s : List UInt8) : Prop := s.length ≤ 2000 ∧ ∀ i, i < s.length → cl (by' s i) ≠ 0
instance decVA (s : List UInt8) : Decidable (VA s) := inferInstanceAs (Decidable (_ ∧ _))
theorem ba_get {s : List UInt8} {k : Nat} (h : k < s.length) : ∃ h' : k < (ByteArray.mk s.toArray).size, (ByteArray.mk s.toArray)[k]'h' = s[k] :=
  ⟨by simpa [ByteArray.size] using h, by show s.toArray[k]'_ = s[k]; simp⟩
theorem rune_low {s : List UInt8} {k : Nat} (h : k < s.length) (hb : by' s k < 128) : rune s k = ((s.getD k 0).toNat, 1) := by
  have e : s.getD k 0 = s[k] := by rw [List.getD_eq_getElem?_getD, List.getElem?_eq_getElem h]; rfl
  unfold by' at hb
  rw [e] at hb ⊢
  obtain ⟨h', e'⟩ := ba_get h
  have := Go.decode_ascii ⟨s.toArray⟩ k h' (by rw [e']; omega)
  rw [e'] at this
  exact this
theorem rune_high {s : List UInt8} {k : Nat} (h : k < s.length) (hb : 128 ≤ by' s k) : 128 ≤ (rune s k).1 := by
  have e : s.getD k 0 = s[k] := by rw [List.getD_eq_getElem?_getD, List.getElem?_eq_getElem h]; rfl
  unfold by' at hb
  rw [e] at hb
  obtain ⟨h', e'⟩ := ba_get h
  exact (Go.decode_high ⟨s.toArray⟩ k h' (by rw [e']; omega)).1
theorem by_succ {s : List UInt8} {k : Nat} (hm : ∀ i, i < k → cl (by' s i) ≠ 0) (h : cl (by' s k) ≠ 0) : ∀ i, i < k + 1 → cl (by' s i) ≠ 0 := fun i hi => by
  by_cases e : i = k
  · subst e; exact h
  · exact hm i (by omega)
theorem rvalid_ok (s : List UInt8) (hl : s.length ≤ 9223372036854775807) : SemF Try.prog 22 [.str s] ⟨0, 0, []⟩ (fun v _ => v = .test (decide (VA s)) ∧ nameless v = true) := by
  refine SemF.test ?_
  refine enter tt_ok Try.func22 (nt := 18) (cd := body Try.f22) rfl rfl rfl rfl ?_
  intro _
  refine loop2 tt_ok [3] [] 0 (fun k : { k : Nat // k ≤ s.length ∧ ∀ i, i < k → cl (by' s i) ≠ 0 } => [(3, .int .i64 (k : Nat))]) (fun _ => []) (fun k => s.length - k) ⟨0, by omega, fun i h => by omega⟩ ?_
  intro _
  refine ⟨⟨th [] 0, rfl, rfl, rfl, rfl, rfl, rfl, ?_, ?_⟩, ?_⟩
  · (repeat' first | exact trivial | exact rfl | refine And.intro ?_ ?_)
  · (repeat' first | exact trivial | exact rfl | refine And.intro ?_ ?_)
  intro ⟨k, hk, hmk⟩
  intro _; refine ⟨fun g => ?_, fun g => ?_⟩
  rotate_left
  · have hkl := of_decide_eq_false (show decide ((k : Int) < (s.length : Int)) = false from g)
    have hkl : k = s.length := by omega
    subst hkl
    intro _
    refine ⟨_, .inr rfl, ?_, rfl⟩
    by_cases e : s.length ≤ 2000
    · rw [decide_eq_true (show (s.length : Int) ≤ 2000 by omega), decide_eq_true (show VA s from ⟨e, hmk⟩)]
    · rw [decide_eq_false (show ¬ (s.length : Int) ≤ 2000 by omega), decide_eq_false (fun h : VA s => e h.1)]
  have hkl := of_decide_eq_true (show decide ((k : Int) < (s.length : Int)) = true from g)
  intro _; refine ⟨show 0 ≤ (k : Int) ∧ (k : Int) < (s.length : Int) by omega, ?_⟩
  intro _
  refine call_pure [] (rclass_ok (by' s k)) rfl rfl rfl ?_ ?_ ?_
  · (repeat' first | exact trivial | exact rfl | refine And.intro ?_ ?_)
  · (repeat' first | exact trivial | exact rfl | refine And.intro ?_ ?_)
  intro v hv _
  subst hv
  intro _; refine ⟨fun g => ?_, fun g => ?_⟩
  · have g : (cl (by' s k) == 0) = true := g
    have g : cl (by' s k) = 0 := by simpa using g
    intro _
    exact ⟨false, .inl rfl, by rw [decide_eq_false (fun h : VA s => h.2 k (by omega) g)], rfl⟩
  have g : (cl (by' s k) == 0) = false := g
  have g : cl (by' s k) ≠ 0 := by simpa using g
  refine ⟨⟨k + 1, by omega, by_succ hmk g⟩, by simp; omega, th [] 0, rfl, rfl, rfl, rfl, rfl, rfl, ?_, ?_⟩
  · (repeat' first | exact trivial | exact rfl | refine And.intro ?_ ?_)
    exact (wrap_nat k (by omega)).symm
  · (repeat' first | exact trivial | exact rfl | refine And.intro ?_ ?_)
theorem valid_ok (s : List UInt8) (hl : s.length ≤ 9223372036854775807) : SemF Try.prog 25 [.str s] ⟨0, 0, []⟩ (fun v _ => v = .test (decide (VA s)) ∧ nameless v = true) := by
  refine SemF.test ?_
  refine enter tt_ok Try.func25 (nt := 16) (cd := body Try.f25) rfl rfl rfl rfl ?_
  intro _; refine ⟨fun g => ?_, fun g => ?_⟩
  · have g := of_decide_eq_true (show decide ((s.length : Int) > 2000) = true from g)
    intro _
    exact ⟨false, .inl rfl, by rw [decide_eq_false (fun h : VA s => by have := h.1; omega)], rfl⟩
  have g2 := of_decide_eq_false (show decide ((s.length : Int) > 2000) = false from g)
  intro _
  refine loop2 tt_ok [] [0] 1 (fun k : { k : Nat // k ≤ s.length ∧ ∀ i, i < k → cl (by' s i) ≠ 0 } => []) (fun k => [(0, .sit s (k : Nat))]) (fun k => s.length - k) ⟨0, by omega, fun i h => by omega⟩ ?_
  intro _
  refine ⟨⟨th [] 1, rfl, rfl, rfl, rfl, rfl, rfl, ?_, ?_⟩, ?_⟩
  · (repeat' first | exact trivial | exact rfl | refine And.intro ?_ ?_)
  · (repeat' first | exact trivial | exact rfl | refine And.intro ?_ ?_)
  intro ⟨k, hk, hmk⟩
  intro _; refine ⟨fun g => ?_, fun g => ?_⟩
  rotate_left
  · have hkl := of_decide_eq_false (show decide (k < s.length) = false from g)
    have hkl : k = s.length := by omega
    subst hkl
    intro _
    exact ⟨true, .inl rfl, by rw [decide_eq_true (show VA s from ⟨by omega, hmk⟩)], rfl⟩
  have hkl := of_decide_eq_true (show decide (k < s.length) = true from g)
  intro _
  refine call_pure [] (class_ok ((rune s k).1 : Int)) rfl rfl rfl ?_ ?_ ?_
  · (repeat' first | exact trivial | exact rfl | refine And.intro ?_ ?_)
  · (repeat' first | exact trivial | exact rfl | refine And.intro ?_ ?_)
  intro v hv _
  subst hv
  intro _; refine ⟨fun g => ?_, fun g => ?_⟩
  · have g : (cl ((rune s k).1 : Int) == 0) = true := g
    have g : cl ((rune s k).1 : Int) = 0 := by simpa using g
    intro _
    refine ⟨false, .inl rfl, ?_, rfl⟩
    rw [decide_eq_false (fun h : VA s => ?_)]
    refine h.2 k hkl ?_
    by_cases hb : by' s k < 128
    · rw [rune_low hkl hb] at g; exact g
    · exact cl_high (by omega)
  have g : (cl ((rune s k).1 : Int) == 0) = false := g
  have g : cl ((rune s k).1 : Int) ≠ 0 := by simpa using g
  have hb : by' s k < 128 := by
    rcases Int.lt_or_le (by' s k) 128 with h | h
    · exact h
    · exact absurd (cl_high (show (128 : Int) ≤ (rune s k).1 by have := rune_high hkl h; omega)) g
  have er := rune_low hkl hb
  refine ⟨⟨k + 1, by omega, by_succ hmk (by rw [er] at g; exact g)⟩, by simp; omega, th [] 1, rfl, rfl, rfl, rfl, rfl, rfl, ?_, ?_⟩
  · (repeat' first | exact trivial | exact rfl | refine And.intro ?_ ?_)
  · (repeat' first | exact trivial | exact rfl | refine And.intro ?_ ?_)
    show k + 1 = k + (rune s k).2
    rw [er]
/-! what is shown -/
def sh (s : List UInt8) : List UInt8 := s.filter fun b => b != 126
def nums (l : List UInt8) : List Int := l.map fun b => (b.toNat : Int)
theorem nums_back (l : List UInt8) : ((nums l).map fun n => UInt8.ofNat n.toNat) = l := by
  unfold nums
  rw [List.map_map]
  have : ((fun n : Int => UInt8.ofNat n.toNat) ∘ fun b : UInt8 => (b.toNat : Int)) = id := by
    funext b
    simp
  rw [this, List.map_id]
theorem sh_succ {s : List UInt8} {k : Nat} (h : k < s.length) : sh (s.take (k + 1)) = sh (s.take k) ++ (if by' s k = 126 then [] else [s.getD k 0]) := by
  have e : s.getD k 0 = s[k] := by rw [List.getD_eq_getElem?_getD, List.getElem?_eq_getElem h]; rfl
  unfold sh
  rw [List.take_succ_eq_append_getElem h, List.filter_append, ← e]
  congr 1
  unfold by'
  by_cases q : s.getD k 0 = 126
  · rw [q]; rfl
  · have q2 : ¬ ((s.getD k 0).toNat : Int) = 126 := fun h => q (by
      have : (s.getD k 0).toNat = 126 := by omega
      exact UInt8.toNat_inj.1 this)
    rw [if_neg q2]
    have q3 : (s.getD k 0 != 126) = true := by rw [bne_iff_ne]; exact q
    rw [List.filter_cons, if_pos q3]
    rfl
theorem sh_len (s : List UInt8) (k : Nat) : (sh (s.take k)).length ≤ k := by
  unfold sh
  exact Nat.le_trans (List.length_filter_le _ _) (by simp; omega)
theorem nums_len (l : List UInt8) : (nums l).length = l.length := by simp [nums]
theorem nums_app (a b : List UInt8) : nums (a ++ b) = nums a ++ nums b := by simp [nums]
theorem wrap8 (n : Int) : IntKind.u8.wrap n = n % 256 := by
  simp only [IntKind.wrap, IntKind.bits, IntKind.signed, Bool.false_and, Bool.false_eq_true, if_false]
  rfl
def SQ (s : List UInt8) : V := if VA s then .tup [.str (sh s), .int .i64 0] else .tup [.str [], .int .i64 1]
theorem Shown_ok (s : List UInt8) (hl : s.length ≤ 9223372036854775807) : SemF Try.prog 26 [.str s] ⟨0, 0, []⟩ (fun v _ => v = SQ s ∧ nameless v = true) := by
  refine enter tt_ok Try.func26 (nt := 13) (cd := body Try.f26) rfl rfl rfl rfl ?_
  intro _
  refine call_pure [] (valid_ok s hl) rfl rfl rfl ?_ ?_ ?_
  · (repeat' first | exact trivial | exact rfl | refine And.intro ?_ ?_)
  · (repeat' first | exact trivial | exact rfl | refine And.intro ?_ ?_)
  intro v hv _
  subst hv
  intro _; refine ⟨fun g => ?_, fun g => ?_⟩
  · have g : (!decide (VA s)) = true := g
    rw [Bool.not_eq_true'] at g
    have g := of_decide_eq_false g
    intro _
    exact ⟨by unfold SQ; rw [if_neg g], rfl⟩
  have g : (!decide (VA s)) = false := g
  rw [Bool.not_eq_false'] at g
  have hV := of_decide_eq_true g
  intro _
  refine enter tt_ok Try.func36 (nt := 14) (cd := body Try.f36) rfl rfl rfl rfl ?_
  intro _
  refine loop2 tt_ok [] [0, 1, 2] 3 (fun k : { k : Nat // k ≤ s.length } => []) (fun k => [(0, .cells [.grw 2 (sh (s.take k)).length]), (1, .sit s (k : Nat)), (2, .arr [.int .u8] .grow (.ints (nums (sh (s.take k)))))]) (fun k => s.length - k) ⟨0, by omega⟩ ?_
  intro _
  refine ⟨⟨th [(2, none)] 3, rfl, rfl, rfl, rfl, rfl, rfl, ?_, ?_⟩, ?_⟩
  · (repeat' first | exact trivial | exact rfl | refine And.intro ?_ ?_)
  · (repeat' first | exact trivial | exact rfl | refine And.intro ?_ ?_)
  intro ⟨k, hk⟩
  intro _; refine ⟨fun g => ?_, fun g => ?_⟩
  rotate_left
  · have hkl := of_decide_eq_false (show decide (k < s.length) = false from g)
    have hkl : k = s.length := by omega
    subst hkl
    intro _
    intro _; refine ⟨(nums_len _).symm, ?_⟩
    intro _
    refine ⟨?_, rfl⟩
    show V.tup [V.str ((nums (sh (s.take s.length))).map fun n => UInt8.ofNat n.toNat), .int .i64 0] = _
    rw [nums_back, List.take_length]
    unfold SQ
    rw [if_pos hV]
  have hkl := of_decide_eq_true (show decide (k < s.length) = true from g)
  have hb : by' s k < 128 := by
    rcases Int.lt_or_le (by' s k) 128 with h | h
    · exact h
    · exact absurd (cl_high h) (hV.2 k hkl)
  have er := rune_low hkl hb
  have e1 : ((rune s k).1 : Int) = by' s k := by rw [er]; rfl
  have e2 : (rune s k).2 = 1 := by rw [er]
  have h2 := hV.1
  have hs := sh_succ hkl
  have hn := sh_len s k
  intro _
  refine enter tt_ok Try.func37 (nt := 10) (cd := body Try.f37) rfl rfl rfl rfl ?_
  intro _; refine ⟨fun g => ?_, fun g => ?_⟩
  rotate_left
  · have g : (((rune s k).1 : Int) != 126) = false := g
    rw [e1] at g
    have g : by' s k = 126 := by simpa using g
    rw [if_pos g, List.append_nil] at hs
    intro _
    refine ⟨⟨k + 1, by omega⟩, by simp; omega, th [] 3, rfl, rfl, rfl, rfl, rfl, rfl, ?_, ?_⟩
    · (repeat' first | exact trivial | exact rfl | refine And.intro ?_ ?_)
    · (repeat' first | exact trivial | exact rfl | refine And.intro ?_ ?_)
      · rw [hs]; (repeat' first | exact trivial | exact rfl | refine And.intro ?_ ?_)
      · show k + 1 = k + (rune s k).2
        rw [e2]
      · rw [hs]; (repeat' first | exact trivial | exact rfl | refine And.intro ?_ ?_)
  have g : (((rune s k).1 : Int) != 126) = true := g
  rw [e1] at g
  have g : ¬ by' s k = 126 := by simpa using g
  rw [if_neg g] at hs
  intro _; refine ⟨rfl, ?_⟩
  intro _; refine ⟨fun g3 => by simp at g3, fun _ => ?_⟩
  refine ⟨⟨(nums_len _).symm, show (sh (s.take k)).length + 1 ≤ 4611686018427387904 by omega, show ((sh (s.take k)).length + 1) * 1 ≤ 140737488355328 by omega⟩, ?_⟩
  intro _
  refine ⟨⟨k + 1, by omega⟩, by simp; omega, th [(2, some 4)] 3, rfl, rfl, rfl, rfl, rfl, rfl, ?_, ?_⟩
  · (repeat' first | exact trivial | exact rfl | refine And.intro ?_ ?_)
  · (repeat' first | exact trivial | exact rfl | refine And.intro ?_ ?_)
    · rw [hs, List.length_append]; (repeat' first | exact trivial | exact rfl | refine And.intro ?_ ?_)
    · show k + 1 = k + (rune s k).2
      rw [e2]
    · show nums (sh (s.take (k + 1))) = nums (sh (s.take k)) ++ [IntKind.u8.wrap ((rune s k).1 : Int)]
      have hq : by' s k % 256 = by' s k := by unfold by' at hb ⊢; omega
      rw [hs, nums_app, e1, wrap8, hq]
      rfl
def q1 (s u : List UInt8) : List UInt8 := if VA s then u else []
def q2 (s : List UInt8) : Int := if VA s then 0 else 1
theorem SQ_eq (s : List UInt8) : SQ s = .tup [.str (q1 s (sh s)), .int .i64 (q2 s)] := by unfold SQ q1 q2; split <;> rfl
set_option maxRecDepth 100000
/-- an answer seen in another way -/
theorem SemF.seen {fid : FuncId} {args : List V} {h : H} {K : V → H → Prop} (hs : SemF Try.prog fid args h (fun v h' => ∃ v', (∀ n ν a, Cv n ν v a → Cv n ν v' a) ∧ K v' h')) : SemF Try.prog fid args h K := by
  refine ⟨fun c ν s «as» r has => ?_⟩
  obtain ⟨N, a, s', v, h', ν', q1, ⟨v', hv, hk⟩, q3, q4, q5⟩ := hs.run c ν s «as» r has
  exact ⟨N, a, s', v', h', ν', q1, hk, q3, hv _ _ _ q4, q5⟩
theorem cv_test {x : V} {b : Bool} : ∀ n ν a, Cv n ν (.tup [x, .bool b]) a → Cv n ν (.tup [x, .test b]) a := by
  intro n ν a h
  simpa only [Cv, Cvs] using h
theorem cv_test1 {x : V} {b : Bool} : ∀ n ν a, Cv n ν (.tup [.bool b, x]) a → Cv n ν (.tup [.test b, x]) a := by
  intro n ν a h
  simpa only [Cv, Cvs] using h
/-! orders -/
def cmpI (a b : Int) : Int := if a < b then -1 else if a > b then 1 else 0
theorem nan_ok (n : Int) : SemF Try.prog 50 [.int .u8 n] ⟨0, 0, []⟩ (fun v _ => v = .test false ∧ nameless v = true) := by
  refine enter tt_ok Try.func50 (nt := 6) (cd := body Try.f50) rfl rfl rfl rfl ?_
  intro _
  exact ⟨by rw [show (n != n) = false by simp], rfl⟩
theorem cmp_ok (a b : Int) : SemF Try.prog 40 [.int .u8 a, .int .u8 b] ⟨0, 0, []⟩ (fun v _ => v = .int .i64 (cmpI a b) ∧ nameless v = true) := by
  refine enter tt_ok Try.func40 (nt := 20) (cd := body Try.f40) rfl rfl rfl rfl ?_
  intro _
  refine call_pure [] (nan_ok a) rfl rfl rfl ?_ ?_ ?_
  · (repeat' first | exact trivial | exact rfl | refine And.intro ?_ ?_)
  · (repeat' first | exact trivial | exact rfl | refine And.intro ?_ ?_)
  intro v hv _
  subst hv
  intro _
  refine call_pure [] (nan_ok b) rfl rfl rfl ?_ ?_ ?_
  · (repeat' first | exact trivial | exact rfl | refine And.intro ?_ ?_)
  · (repeat' first | exact trivial | exact rfl | refine And.intro ?_ ?_)
  intro v hv _
  subst hv
  intro _; refine ⟨fun g => Bool.noConfusion g, fun _ => ?_⟩
  intro _; refine ⟨fun g => Bool.noConfusion g, fun _ => ?_⟩
  intro _; refine ⟨fun g => ?_, fun g => ?_⟩
  · have g := of_decide_eq_true (show decide (a < b) = true from g)
    intro _
    exact ⟨by unfold cmpI; rw [if_pos g], rfl⟩
  have g1 := of_decide_eq_false (show decide (a < b) = false from g)
  intro _; refine ⟨fun g => ?_, fun g => ?_⟩
  · have g := of_decide_eq_true (show decide (a > b) = true from g)
    intro _
    exact ⟨by unfold cmpI; rw [if_neg g1, if_pos g], rfl⟩
  have g2 := of_decide_eq_false (show decide (a > b) = false from g)
  intro _
  exact ⟨by unfold cmpI; rw [if_neg g1, if_neg g2], rfl⟩
def orI (a b : Int) : Int := if a = 0 then b else a
theorem or_ok (a b : Int) : SemF Try.prog 41 [.slc 0 1 0 2] ⟨1, 1, [(0, .arr [.int .i64] .rd (.ints [a, b]))]⟩ (fun v _ => v = .int .i64 (orI a b) ∧ nameless v = true) := by
  refine enter tt_ok Try.func41 (nt := 18) (cd := body Try.f41) rfl rfl rfl rfl ?_
  intro _
  refine loop2 tt_ok [8] [] 1 (fun k : { k : Nat // k ≤ 2 ∧ (1 ≤ k → a = 0) ∧ (2 ≤ k → b = 0) } => [(8, .int .i64 (k.1 : Nat))]) (fun k => []) (fun k => 2 - k.1) ⟨0, by omega, by omega, by omega⟩ ?_
  intro _
  refine ⟨⟨th [] 1, rfl, rfl, rfl, rfl, rfl, rfl, ?_, ?_⟩, ?_⟩
  · (repeat' first | exact trivial | exact rfl | refine And.intro ?_ ?_)
  · (repeat' first | exact trivial | exact rfl | refine And.intro ?_ ?_)
  intro ⟨k, hk, h1, h2⟩
  intro _; refine ⟨fun g => ?_, fun g => ?_⟩
  rotate_left
  · have hkl := of_decide_eq_false (show decide ((k : Int) < 2) = false from g)
    intro _
    refine ⟨?_, rfl⟩
    unfold orI; rw [if_pos (h1 (by omega)), h2 (by omega)]
  have hkl := of_decide_eq_true (show decide ((k : Int) < 2) = true from g)
  intro _; refine ⟨show 0 ≤ (k : Int) ∧ (k : Int) < (2 : Nat) by omega, ?_⟩
  intro _; refine ⟨show (0 + (k : Int).toNat) < 2 by omega, ?_⟩
  have hcase : k = 0 ∨ k = 1 := by omega
  rcases hcase with rfl | rfl
  · intro _; refine ⟨fun g => ?_, fun g => ?_⟩
    · have g : (a != 0) = true := g
      have g : ¬ a = 0 := by simpa using g
      intro _
      exact ⟨by unfold orI; rw [if_neg g]; rfl, rfl⟩
    have g : (a != 0) = false := g
    have g : a = 0 := by simpa using g
    refine ⟨⟨1, by omega, fun _ => g, by omega⟩, by simp, th [] 1, rfl, rfl, rfl, rfl, rfl, rfl, ?_, ?_⟩
    · (repeat' first | exact trivial | exact rfl | refine And.intro ?_ ?_)
    · (repeat' first | exact trivial | exact rfl | refine And.intro ?_ ?_)
  · intro _; refine ⟨fun g => ?_, fun g => ?_⟩
    · have g : (b != 0) = true := g
      intro _
      exact ⟨by unfold orI; rw [if_pos (h1 (by omega))]; rfl, rfl⟩
    have g : (b != 0) = false := g
    have g : b = 0 := by simpa using g
    refine ⟨⟨2, by omega, fun _ => h1 (by omega), fun _ => g⟩, by simp, th [] 1, rfl, rfl, rfl, rfl, rfl, rfl, ?_, ?_⟩
    · (repeat' first | exact trivial | exact rfl | refine And.intro ?_ ?_)
    · (repeat' first | exact trivial | exact rfl | refine And.intro ?_ ?_)
/-! rows of glyphs and kerns -/
abbrev LD := List (List D)
def cI (d : List D) (j : Nat) : Int := (d.getD j (.n 0)).int
def gB (g : LD) (i : Nat) : Int := cI (g.getD i []) 0
def gA (g : LD) (i : Nat) : Int := cI (g.getD i []) 1
def kL (k : LD) (i : Nat) : Int := cI (k.getD i []) 0
def kR (k : LD) (i : Nat) : Int := cI (k.getD i []) 1
def kB (k : LD) (i : Nat) : Int := cI (k.getD i []) 2
/-- the first one that is such -/
def fst' (p : List D → Bool) : LD → Nat → Option Nat
  | [], _ => none
  | d :: l, i => if p d then some i else fst' p l (i + 1)
theorem fst_some {p : List D → Bool} : ∀ {l : LD} {i m : Nat}, fst' p l i = some m → i ≤ m ∧ m < i + l.length ∧ p (l.getD (m - i) []) = true ∧ ∀ j, j < m - i → p (l.getD j []) = false
  | [], i, m, h => by cases h
  | d :: l, i, m, h => by
    unfold fst' at h
    split at h
    · rename_i hp
      cases h
      refine ⟨Nat.le_refl _, by simp, ?_, fun j hj => by omega⟩
      rw [Nat.sub_self]; exact hp
    · rename_i hp
      obtain ⟨h1, h2, h3, h4⟩ := fst_some h
      have e : m - i = (m - (i + 1)) + 1 := by omega
      refine ⟨by omega, by simp; omega, ?_, fun j hj => ?_⟩
      · rw [e]; exact h3
      · rcases j with _ | j
        · exact Bool.eq_false_iff.2 hp
        · exact h4 j (by omega)
theorem fst_none {p : List D → Bool} : ∀ {l : LD} {i : Nat}, fst' p l i = none → ∀ j, j < l.length → p (l.getD j []) = false
  | [], i, h => fun j hj => by simp at hj
  | d :: l, i, h => by
    unfold fst' at h
    split at h
    · cases h
    · rename_i hp
      intro j hj
      rcases j with _ | j
      · exact Bool.eq_false_iff.2 hp
      · exact fst_none h j (by simp at hj; omega)
theorem fst_eq {p : List D → Bool} {l : LD} {m : Nat} (hm : m < l.length) (hp : p (l.getD m []) = true) (hu : ∀ j, j < m → p (l.getD j []) = false) : fst' p l 0 = some m := by
  cases e : fst' p l 0 with
  | none => rw [fst_none e m hm] at hp; cases hp
  | some q =>
    obtain ⟨_, h2, h3, h4⟩ := fst_some e
    rw [Nat.sub_zero] at h3 h4
    rcases Nat.lt_trichotomy q m with h | h | h
    · rw [hu q h] at h3; cases h3
    · rw [h]
    · rw [h4 m h] at hp; cases hp
theorem fst_no {p : List D → Bool} {l : LD} (hu : ∀ j, j < l.length → p (l.getD j []) = false) : fst' p l 0 = none := by
  cases e : fst' p l 0 with
  | none => rfl
  | some q =>
    obtain ⟨_, h2, h3, h4⟩ := fst_some e
    rw [Nat.sub_zero] at h3
    rw [hu q (by omega)] at h3; cases h3
def gi (g : LD) (b : Int) : Option Nat := fst' (fun d => cI d 0 == b) g 0
def ki (k : LD) (l r : Int) : Option Nat := fst' (fun d => cI d 0 == l && cI d 1 == r) k 0
def aG (g : LD) (b : Int) : Int := match gi g b with | some i => gA g i | none => 0
def hG (g : LD) (b : Int) : Bool := (gi g b).isSome
def bK (k : LD) (l r : Int) : Int := match ki k l r with | some i => kB k i | none => 0
theorem gi_some {g : LD} {b : Int} {m : Nat} (h : gi g b = some m) : m < g.length ∧ gB g m = b ∧ ∀ j, j < m → gB g j ≠ b := by
  obtain ⟨_, h2, h3, h4⟩ := fst_some h
  rw [Nat.sub_zero] at h3 h4
  exact ⟨by omega, eq_of_beq h3, fun j hj e => by have := h4 j hj; rw [show (cI (g.getD j []) 0 == b) = true from beq_iff_eq.2 e] at this; cases this⟩
theorem gi_none {g : LD} {b : Int} (h : gi g b = none) : ∀ j, j < g.length → gB g j ≠ b := fun j hj e => by
  have := fst_none h j hj
  rw [show (cI (g.getD j []) 0 == b) = true from beq_iff_eq.2 e] at this; cases this
theorem gi_eq {g : LD} {b : Int} {m : Nat} (hm : m < g.length) (hb : gB g m = b) (hu : ∀ j, j < m → gB g j ≠ b) : gi g b = some m :=
  fst_eq hm (beq_iff_eq.2 hb) (fun j hj => beq_eq_false_iff_ne.2 (hu j hj))
theorem gi_no {g : LD} {b : Int} (hu : ∀ j, j < g.length → gB g j ≠ b) : gi g b = none := fst_no (fun j hj => beq_eq_false_iff_ne.2 (hu j hj))
theorem kp_iff {d : List D} {l r : Int} : (cI d 0 == l && cI d 1 == r) = true ↔ cI d 0 = l ∧ cI d 1 = r := by simp
theorem ki_some {k : LD} {l r : Int} {m : Nat} (h : ki k l r = some m) : m < k.length ∧ kL k m = l ∧ kR k m = r ∧ ∀ j, j < m → ¬ (kL k j = l ∧ kR k j = r) := by
  obtain ⟨_, h2, h3, h4⟩ := fst_some h
  rw [Nat.sub_zero] at h3 h4
  obtain ⟨a, b⟩ := kp_iff.1 h3
  exact ⟨by omega, a, b, fun j hj e => by have := h4 j hj; rw [kp_iff.2 e] at this; cases this⟩
theorem ki_none {k : LD} {l r : Int} (h : ki k l r = none) : ∀ j, j < k.length → ¬ (kL k j = l ∧ kR k j = r) := fun j hj e => by
  have := fst_none h j hj
  rw [kp_iff.2 e] at this; cases this
theorem ki_eq {k : LD} {l r : Int} {m : Nat} (hm : m < k.length) (h1 : kL k m = l) (h2 : kR k m = r) (hu : ∀ j, j < m → ¬ (kL k j = l ∧ kR k j = r)) : ki k l r = some m :=
  fst_eq hm (kp_iff.2 ⟨h1, h2⟩) (fun j hj => Bool.eq_false_iff.2 fun e => hu j hj (kp_iff.1 e))
theorem ki_no {k : LD} {l r : Int} (hu : ∀ j, j < k.length → ¬ (kL k j = l ∧ kR k j = r)) : ki k l r = none := fst_no (fun j hj => Bool.eq_false_iff.2 fun e => hu j hj (kp_iff.1 e))
/-! sorted lists -/
abbrev GO (g : LD) : Prop := ∀ i j, i < j → j < g.length → gB g i < gB g j
def klt (a b c d : Int) : Prop := a < c ∨ a = c ∧ b < d
abbrev KO (k : LD) : Prop := ∀ i j, i < j → j < k.length → klt (kL k i) (kR k i) (kL k j) (kR k j)
theorem cmp_0 {a b : Int} : cmpI a b = 0 ↔ a = b := by unfold cmpI; (repeat' split) <;> omega
theorem cmp_neg {a b : Int} : cmpI a b < 0 ↔ a < b := by unfold cmpI; (repeat' split) <;> omega
theorem or_0 {a b : Int} : orI a b = 0 ↔ a = 0 ∧ b = 0 := by unfold orI; split <;> omega
theorem ordK_0 {a b c d : Int} : orI (cmpI a c) (cmpI b d) = 0 ↔ a = c ∧ b = d := by rw [or_0, cmp_0, cmp_0]
theorem ordK_neg {a b c d : Int} : orI (cmpI a c) (cmpI b d) < 0 ↔ klt a b c d := by
  unfold orI klt
  split
  · rename_i h; rw [cmp_0] at h; rw [cmp_neg]; omega
  · rename_i h; rw [cmp_0] at h; rw [cmp_neg]; omega
theorem ordG_ok (x a b : Int) : SemF Try.prog 39 [.agg [.int .u8 x, .int .i64 a], .ptr 0 0] ⟨1, 1, [(0, .cells [.int .u8 b])]⟩ (fun v _ => v = .int .i64 (cmpI x b) ∧ nameless v = true) := by
  refine enter tt_ok Try.func39 (nt := 8) (cd := body Try.f39) rfl rfl rfl rfl ?_
  intro _
  refine call_pure [] (cmp_ok x b) rfl rfl rfl ?_ ?_ ?_
  · (repeat' first | exact trivial | exact rfl | refine And.intro ?_ ?_)
  · (repeat' first | exact trivial | exact rfl | refine And.intro ?_ ?_)
  intro v hv _
  subst hv
  intro _
  exact ⟨rfl, rfl⟩
theorem ordK_ok (x y z l r : Int) : SemF Try.prog 44 [.agg [.int .u8 x, .int .u8 y, .int .i64 z], .ptr 0 0, .ptr 1 0] ⟨2, 2, [(0, .cells [.int .u8 l]), (1, .cells [.int .u8 r])]⟩ (fun v _ => v = .int .i64 (orI (cmpI x l) (cmpI y r)) ∧ nameless v = true) := by
  refine enter tt_ok Try.func44 (nt := 15) (cd := body Try.f44) rfl rfl rfl rfl ?_
  intro _
  refine Or.inl ?_
  intro _
  refine call_pure [] (cmp_ok x l) rfl rfl rfl ?_ ?_ ?_
  · (repeat' first | exact trivial | exact rfl | refine And.intro ?_ ?_)
  · (repeat' first | exact trivial | exact rfl | refine And.intro ?_ ?_)
  intro v hv _
  subst hv
  intro _
  refine Or.inl ?_
  intro _
  refine call_pure [] (cmp_ok y r) rfl rfl rfl ?_ ?_ ?_
  · (repeat' first | exact trivial | exact rfl | refine And.intro ?_ ?_)
  · (repeat' first | exact trivial | exact rfl | refine And.intro ?_ ?_)
  intro v hv _
  subst hv
  intro _
  refine Or.inl ?_
  intro _
  refine call_pure [(0, some 3)] (or_ok (cmpI x l) (cmpI y r)) rfl rfl rfl ?_ ?_ ?_
  · (repeat' first | exact trivial | exact rfl | refine And.intro ?_ ?_)
  · (repeat' first | exact trivial | exact rfl | refine And.intro ?_ ?_)
  intro v hv _
  subst hv
  intro _
  refine ⟨by kernel_rfl, ?_⟩
  intro _
  exact ⟨rfl, rfl⟩
set_option maxRecDepth 100000
def FTG (g : LD) (b : Int) : V := match gi g b with | some i => .tup [.int .i64 (i : Nat), .bool true] | none => .tup [.int .i64 0, .bool false]
def FTK (k : LD) (l r : Int) : V := match ki k l r with | some i => .tup [.int .i64 (i : Nat), .bool true] | none => .tup [.int .i64 0, .bool false]
def RTG (g : LD) (b : Int) : V := match gi g b with | some i => .tup [.agg [.int .u8 (gB g i), .int .i64 (gA g i)], .test true] | none => .tup [.agg [.int .u8 0, .int .i64 0], .test false]
def RTK (k : LD) (l r : Int) : V := match ki k l r with | some i => .tup [.agg [.int .u8 (kL k i), .int .u8 (kR k i), .int .i64 (kB k i)], .test true] | none => .tup [.agg [.int .u8 0, .int .u8 0, .int .i64 0], .test false]

theorem findG_ok (q0 : LD) (b : Int) (hn : q0.length ≤ 1000000) (hs : GO q0) : SemF Try.prog 49 [.slc 0 2 0 q0.length, .fn 39 [] [.ptr 1 0]] ⟨2, 2, [(0, .arr [.int .u8, .int .i64] .rd (.recs q0)), (1, .cells [.int .u8 b])]⟩ (fun v _ => v = FTG q0 b ∧ nameless v = true) := by
  refine enter tt_ok Try.func49 (nt := 35) (cd := body Try.f49) rfl rfl rfl rfl ?_
  intro _
  refine loop2 tt_ok [6, 7] [] 2 (fun p : { p : Nat × Nat // p.1 ≤ p.2 ∧ p.2 ≤ q0.length ∧ (∀ i, i < p.1 → gB q0 i < b) ∧ ∀ i, p.2 ≤ i → i < q0.length → b < gB q0 i } => [(6, .int .i64 (p.1.1 : Nat)), (7, .int .i64 (p.1.2 : Nat))]) (fun _ => []) (fun p => p.1.2 - p.1.1) ⟨(0, q0.length), by simp, by simp, fun i hi => by simp at hi, fun i h1 h2 => by simp at h1; omega⟩ ?_
  intro _
  refine ⟨⟨th [] 2, rfl, rfl, rfl, rfl, rfl, rfl, ?_, ?_⟩, ?_⟩
  · (repeat' first | exact trivial | exact rfl | refine And.intro ?_ ?_)
  · (repeat' first | exact trivial | exact rfl | refine And.intro ?_ ?_)
  intro ⟨⟨lo, hi⟩, h1, h2, h3, h4⟩
  simp only [] at h1 h2 h3 h4
  intro _; refine ⟨fun g => ?_, fun g => ?_⟩
  rotate_left
  · have hkl := of_decide_eq_false (show decide ((lo : Int) < (hi : Int)) = false from g)
    have e : lo = hi := by omega
    subst e
    intro _
    refine ⟨?_, rfl⟩
    have : gi q0 b = none := gi_no (fun j hj e => by
      rcases Nat.lt_or_ge j lo with q | q
      · have := h3 j q; omega
      · have := h4 j q hj; omega)
    unfold FTG; rw [this]
  have hkl := of_decide_eq_true (show decide ((lo : Int) < (hi : Int)) = true from g)
  have em : IntKind.i64.wrap ((IntKind.i64.wrap ((lo : Int) + (hi : Int))).tdiv 2) = (((lo + hi) / 2 : Nat) : Int) := by
    rw [wrapS ((lo : Int) + (hi : Int)) ⟨by omega, by omega⟩]
    rw [show ((lo : Int) + (hi : Int)).tdiv 2 = (((lo + hi) / 2 : Nat) : Int) by exact_mod_cast Int.ofNat_tdiv (lo + hi) 2]
    exact wrapS _ ⟨by omega, by omega⟩
  intro _; refine ⟨by decide, ?_⟩
  intro _; refine ⟨by rw [em]; omega, ?_⟩
  intro _; refine ⟨show 0 + (IntKind.i64.wrap ((IntKind.i64.wrap ((lo : Int) + (hi : Int))).tdiv 2)).toNat < q0.length by rw [em]; omega, ?_⟩
  intro _
  have ei : 0 + (IntKind.i64.wrap ((IntKind.i64.wrap ((lo : Int) + (hi : Int))).tdiv 2)).toNat = (lo + hi) / 2 := by rw [em]; omega
  generalize hm : (lo + hi) / 2 = m at em ei
  have hlm : lo ≤ m := by omega
  have hmh : m < hi := by omega
  refine call_pure [(0, some 1)] (ordG_ok (gB q0 m) (gA q0 m) b) rfl rfl rfl ?_ ?_ ?_
  · (repeat' first | exact trivial | exact rfl | refine And.intro ?_ ?_)
  · (repeat' first | exact trivial | exact rfl | refine And.intro ?_ ?_)
    all_goals (show _ = _; first | rfl | (rw [← ei]; rfl))
  intro v hv _
  have ew : IntKind.i64.wrap (IntKind.i64.wrap ((IntKind.i64.wrap ((lo : Int) + (hi : Int))).tdiv 2) + 1) = ((m + 1 : Nat) : Int) := by rw [em]; exact wrap_nat m (by omega)
  subst hv
  intro _; refine ⟨fun g => ?_, fun g => ?_⟩
  · have e : (cmpI (gB q0 m) b == 0) = true := g
    have e : cmpI (gB q0 m) b = 0 := by simpa using e
    rw [cmp_0] at e
    intro _
    refine ⟨?_, rfl⟩
    have : gi q0 b = some m := gi_eq (by omega) e (fun j hj q => by
      have := hs j m hj (by omega); omega)
    unfold FTG; rw [this]
    show V.tup [.int .i64 _, .bool true] = V.tup [.int .i64 _, .bool true]
    rw [em]
  have e0 : (cmpI (gB q0 m) b == 0) = false := g
  have e0 : ¬ cmpI (gB q0 m) b = 0 := by simpa using e0
  rw [cmp_0] at e0
  intro _; refine ⟨fun g => ?_, fun g => ?_⟩
  · have e1 := of_decide_eq_true (show decide (cmpI (gB q0 m) b < 0) = true from g)
    rw [cmp_neg] at e1
    refine ⟨⟨(m + 1, hi), by simp only []; omega, h2, fun i q => ?_, h4⟩, by simp only []; omega, th [] 2, rfl, rfl, rfl, rfl, rfl, rfl, ?_, ?_⟩
    · simp only [] at q
      rcases Nat.lt_or_ge i m with r | r
      · have := hs i m r (by omega); omega
      · have : i = m := by omega
        subst this; exact e1
    · (repeat' first | exact trivial | exact rfl | refine And.intro ?_ ?_)
      · exact ew.symm
    · (repeat' first | exact trivial | exact rfl | refine And.intro ?_ ?_)
  have e1 := of_decide_eq_false (show decide (cmpI (gB q0 m) b < 0) = false from g)
  rw [cmp_neg] at e1
  refine ⟨⟨(lo, m), hlm, by simp only []; omega, h3, fun i q1 q2 => ?_⟩, by simp only []; omega, th [] 2, rfl, rfl, rfl, rfl, rfl, rfl, ?_, ?_⟩
  · simp only [] at q1
    rcases Nat.eq_or_lt_of_le q1 with r | r
    · subst r; omega
    · have := hs m i r q2; omega
  · (repeat' first | exact trivial | exact rfl | refine And.intro ?_ ?_)
    · exact em.symm
  · (repeat' first | exact trivial | exact rfl | refine And.intro ?_ ?_)
theorem fndG_ok (q0 : LD) (b : Int) (hn : q0.length ≤ 1000000) (hs : GO q0) : SemF Try.prog 38 [.slc 0 2 0 q0.length, .fn 39 [] [.ptr 1 0]] ⟨2, 2, [(0, .arr [.int .u8, .int .i64] .rd (.recs q0)), (1, .cells [.int .u8 b])]⟩ (fun v _ => v = RTG q0 b ∧ nameless v = true) := by
  refine SemF.seen ?_
  refine enter tt_ok Try.func38 (nt := 20) (cd := body Try.f38) rfl rfl rfl rfl ?_
  intro _
  refine call_pure [(0, some 0), (1, some 1)] (findG_ok q0 b hn hs) rfl rfl rfl ?_ ?_ ?_
  · (repeat' first | exact trivial | exact rfl | refine And.intro ?_ ?_)
  · (repeat' first | exact trivial | exact rfl | refine And.intro ?_ ?_)
  intro v hv _
  cases e : gi q0 b with
  | none =>
    unfold FTG at hv
    rw [e] at hv
    subst hv
    intro _
    refine ⟨_, cv_test, ?_, rfl⟩
    unfold RTG; rw [e]
  | some m =>
    unfold FTG at hv
    rw [e] at hv
    subst hv
    obtain ⟨k1, k2⟩ := gi_some e
    intro _; refine ⟨show 0 ≤ (m : Int) ∧ (m : Int) < (q0.length : Int) by omega, ?_⟩
    intro _; refine ⟨show 0 + (m : Int).toNat < q0.length by omega, ?_⟩
    intro _
    refine ⟨_, cv_test, ?_, rfl⟩
    unfold RTG; rw [e]
    show V.tup [.agg [.int .u8 (cI (q0.getD (0 + (m : Int).toNat) []) 0), .int .i64 (cI (q0.getD (0 + (m : Int).toNat) []) 1)], .test true] = V.tup [.agg [.int .u8 (gB q0 m), .int .i64 (gA q0 m)], .test true]
    rw [show 0 + (m : Int).toNat = m by omega]; rfl

theorem findK_ok (q0 : LD) (l r : Int) (hn : q0.length ≤ 1000000) (hs : KO q0) : SemF Try.prog 51 [.slc 0 3 0 q0.length, .fn 44 [] [.ptr 1 0, .ptr 2 0]] ⟨3, 3, [(0, .arr [.int .u8, .int .u8, .int .i64] .rd (.recs q0)), (1, .cells [.int .u8 l]), (2, .cells [.int .u8 r])]⟩ (fun v _ => v = FTK q0 l r ∧ nameless v = true) := by
  refine enter tt_ok Try.func51 (nt := 35) (cd := body Try.f51) rfl rfl rfl rfl ?_
  intro _
  refine loop2 tt_ok [6, 7] [] 3 (fun p : { p : Nat × Nat // p.1 ≤ p.2 ∧ p.2 ≤ q0.length ∧ (∀ i, i < p.1 → klt (kL q0 i) (kR q0 i) l r) ∧ ∀ i, p.2 ≤ i → i < q0.length → klt l r (kL q0 i) (kR q0 i) } => [(6, .int .i64 (p.1.1 : Nat)), (7, .int .i64 (p.1.2 : Nat))]) (fun _ => []) (fun p => p.1.2 - p.1.1) ⟨(0, q0.length), by simp, by simp, fun i hi => by simp at hi, fun i h1 h2 => by simp at h1; omega⟩ ?_
  intro _
  refine ⟨⟨th [] 3, rfl, rfl, rfl, rfl, rfl, rfl, ?_, ?_⟩, ?_⟩
  · (repeat' first | exact trivial | exact rfl | refine And.intro ?_ ?_)
  · (repeat' first | exact trivial | exact rfl | refine And.intro ?_ ?_)
  intro ⟨⟨lo, hi⟩, h1, h2, h3, h4⟩
  simp only [] at h1 h2 h3 h4
  intro _; refine ⟨fun g => ?_, fun g => ?_⟩
  rotate_left
  · have hkl := of_decide_eq_false (show decide ((lo : Int) < (hi : Int)) = false from g)
    have e : lo = hi := by omega
    subst e
    intro _
    refine ⟨?_, rfl⟩
    have : ki q0 l r = none := ki_no (fun j hj e => by
      rcases Nat.lt_or_ge j lo with q | q
      · have := h3 j q; unfold klt at this; omega
      · have := h4 j q hj; unfold klt at this; omega)
    unfold FTK; rw [this]
  have hkl := of_decide_eq_true (show decide ((lo : Int) < (hi : Int)) = true from g)
  have em : IntKind.i64.wrap ((IntKind.i64.wrap ((lo : Int) + (hi : Int))).tdiv 2) = (((lo + hi) / 2 : Nat) : Int) := by
    rw [wrapS ((lo : Int) + (hi : Int)) ⟨by omega, by omega⟩]
    rw [show ((lo : Int) + (hi : Int)).tdiv 2 = (((lo + hi) / 2 : Nat) : Int) by exact_mod_cast Int.ofNat_tdiv (lo + hi) 2]
    exact wrapS _ ⟨by omega, by omega⟩
  intro _; refine ⟨by decide, ?_⟩
  intro _; refine ⟨by rw [em]; omega, ?_⟩
  intro _; refine ⟨show 0 + (IntKind.i64.wrap ((IntKind.i64.wrap ((lo : Int) + (hi : Int))).tdiv 2)).toNat < q0.length by rw [em]; omega, ?_⟩
  intro _
  have ei : 0 + (IntKind.i64.wrap ((IntKind.i64.wrap ((lo : Int) + (hi : Int))).tdiv 2)).toNat = (lo + hi) / 2 := by rw [em]; omega
  generalize hm : (lo + hi) / 2 = m at em ei
  have hlm : lo ≤ m := by omega
  have hmh : m < hi := by omega
  refine call_pure [(0, some 1), (1, some 2)] (ordK_ok (kL q0 m) (kR q0 m) (kB q0 m) l r) rfl rfl rfl ?_ ?_ ?_
  · (repeat' first | exact trivial | exact rfl | refine And.intro ?_ ?_)
  · (repeat' first | exact trivial | exact rfl | refine And.intro ?_ ?_)
    all_goals (show _ = _; first | rfl | (rw [← ei]; rfl))
  intro v hv _
  have ew : IntKind.i64.wrap (IntKind.i64.wrap ((IntKind.i64.wrap ((lo : Int) + (hi : Int))).tdiv 2) + 1) = ((m + 1 : Nat) : Int) := by rw [em]; exact wrap_nat m (by omega)
  subst hv
  intro _; refine ⟨fun g => ?_, fun g => ?_⟩
  · have e : (orI (cmpI (kL q0 m) l) (cmpI (kR q0 m) r) == 0) = true := g
    have e : orI (cmpI (kL q0 m) l) (cmpI (kR q0 m) r) = 0 := by simpa using e
    rw [ordK_0] at e
    intro _
    refine ⟨?_, rfl⟩
    have : ki q0 l r = some m := ki_eq (by omega) e.1 e.2 (fun j hj q => by
      have := hs j m hj (by omega); unfold klt at this; omega)
    unfold FTK; rw [this]
    show V.tup [.int .i64 _, .bool true] = V.tup [.int .i64 _, .bool true]
    rw [em]
  have e0 : (orI (cmpI (kL q0 m) l) (cmpI (kR q0 m) r) == 0) = false := g
  have e0 : ¬ orI (cmpI (kL q0 m) l) (cmpI (kR q0 m) r) = 0 := by simpa using e0
  rw [ordK_0] at e0
  intro _; refine ⟨fun g => ?_, fun g => ?_⟩
  · have e1 := of_decide_eq_true (show decide (orI (cmpI (kL q0 m) l) (cmpI (kR q0 m) r) < 0) = true from g)
    rw [ordK_neg] at e1
    refine ⟨⟨(m + 1, hi), by simp only []; omega, h2, fun i q => ?_, h4⟩, by simp only []; omega, th [] 3, rfl, rfl, rfl, rfl, rfl, rfl, ?_, ?_⟩
    · simp only [] at q
      rcases Nat.lt_or_ge i m with r | r
      · have := hs i m r (by omega); unfold klt at this e1 ⊢; omega
      · have : i = m := by omega
        subst this; exact e1
    · (repeat' first | exact trivial | exact rfl | refine And.intro ?_ ?_)
      · exact ew.symm
    · (repeat' first | exact trivial | exact rfl | refine And.intro ?_ ?_)
  have e1 := of_decide_eq_false (show decide (orI (cmpI (kL q0 m) l) (cmpI (kR q0 m) r) < 0) = false from g)
  rw [ordK_neg] at e1
  refine ⟨⟨(lo, m), hlm, by simp only []; omega, h3, fun i q1 q2 => ?_⟩, by simp only []; omega, th [] 3, rfl, rfl, rfl, rfl, rfl, rfl, ?_, ?_⟩
  · simp only [] at q1
    rcases Nat.eq_or_lt_of_le q1 with r | r
    · subst r; unfold klt at *; omega
    · have := hs m i r q2; unfold klt at *; omega
  · (repeat' first | exact trivial | exact rfl | refine And.intro ?_ ?_)
    · exact em.symm
  · (repeat' first | exact trivial | exact rfl | refine And.intro ?_ ?_)
theorem fndK_ok (q0 : LD) (l r : Int) (hn : q0.length ≤ 1000000) (hs : KO q0) : SemF Try.prog 43 [.slc 0 3 0 q0.length, .fn 44 [] [.ptr 1 0, .ptr 2 0]] ⟨3, 3, [(0, .arr [.int .u8, .int .u8, .int .i64] .rd (.recs q0)), (1, .cells [.int .u8 l]), (2, .cells [.int .u8 r])]⟩ (fun v _ => v = RTK q0 l r ∧ nameless v = true) := by
  refine SemF.seen ?_
  refine enter tt_ok Try.func43 (nt := 20) (cd := body Try.f43) rfl rfl rfl rfl ?_
  intro _
  refine call_pure [(0, some 0), (1, some 1), (2, some 2)] (findK_ok q0 l r hn hs) rfl rfl rfl ?_ ?_ ?_
  · (repeat' first | exact trivial | exact rfl | refine And.intro ?_ ?_)
  · (repeat' first | exact trivial | exact rfl | refine And.intro ?_ ?_)
  intro v hv _
  cases e : ki q0 l r with
  | none =>
    unfold FTK at hv
    rw [e] at hv
    subst hv
    intro _
    refine ⟨_, cv_test, ?_, rfl⟩
    unfold RTK; rw [e]
  | some m =>
    unfold FTK at hv
    rw [e] at hv
    subst hv
    obtain ⟨k1, k2⟩ := ki_some e
    intro _; refine ⟨show 0 ≤ (m : Int) ∧ (m : Int) < (q0.length : Int) by omega, ?_⟩
    intro _; refine ⟨show 0 + (m : Int).toNat < q0.length by omega, ?_⟩
    intro _
    refine ⟨_, cv_test, ?_, rfl⟩
    unfold RTK; rw [e]
    show V.tup [.agg [.int .u8 (cI (q0.getD (0 + (m : Int).toNat) []) 0), .int .u8 (cI (q0.getD (0 + (m : Int).toNat) []) 1), .int .i64 (cI (q0.getD (0 + (m : Int).toNat) []) 2)], .test true] = V.tup [.agg [.int .u8 (kL q0 m), .int .u8 (kR q0 m), .int .i64 (kB q0 m)], .test true]
    rw [show 0 + (m : Int).toNat = m by omega]; rfl
theorem Adv_ok (q0 k : LD) (b : Int) (hn : q0.length ≤ 1000000) (hs : GO q0) : SemF Try.prog 27 [.agg [.slc 0 2 0 q0.length, .slc 1 3 0 k.length], .int .u8 b] ⟨2, 2, [(0, .arr [.int .u8, .int .i64] .rd (.recs q0)), (1, .arr [.int .u8, .int .u8, .int .i64] .rd (.recs k))]⟩ (fun v _ => v = .tup [.int .i64 (aG q0 b), .test (hG q0 b)] ∧ nameless v = true) := by
  refine enter tt_ok Try.func27 (nt := 18) (cd := body Try.f27) rfl rfl rfl rfl ?_
  intro _
  refine call_pure [(0, some 0), (1, some 3)] (fndG_ok q0 b hn hs) rfl rfl rfl ?_ ?_ ?_
  · (repeat' first | exact trivial | exact rfl | refine And.intro ?_ ?_)
  · (repeat' first | exact trivial | exact rfl | refine And.intro ?_ ?_)
  intro v hv _
  cases e : gi q0 b with
  | none =>
    unfold RTG at hv
    rw [e] at hv
    subst hv
    intro _
    refine ⟨?_, rfl⟩
    unfold aG hG; rw [e]; rfl
  | some m =>
    unfold RTG at hv
    rw [e] at hv
    subst hv
    intro _
    refine ⟨?_, rfl⟩
    unfold aG hG; rw [e]; rfl
theorem Krn_ok (q0 k : LD) (l r : Int) (hn : k.length ≤ 1000000) (hs : KO k) : SemF Try.prog 32 [.agg [.slc 0 2 0 q0.length, .slc 1 3 0 k.length], .int .u8 l, .int .u8 r] ⟨2, 2, [(0, .arr [.int .u8, .int .i64] .rd (.recs q0)), (1, .arr [.int .u8, .int .u8, .int .i64] .rd (.recs k))]⟩ (fun v _ => v = .int .i64 (bK k l r) ∧ nameless v = true) := by
  refine enter tt_ok Try.func32 (nt := 18) (cd := body Try.f32) rfl rfl rfl rfl ?_
  intro _
  refine call_pure [(0, some 1), (1, some 3), (2, some 4)] (fndK_ok k l r hn hs) rfl rfl rfl ?_ ?_ ?_
  · (repeat' first | exact trivial | exact rfl | refine And.intro ?_ ?_)
  · (repeat' first | exact trivial | exact rfl | refine And.intro ?_ ?_)
  intro v hv _
  cases e : ki k l r with
  | none =>
    unfold RTK at hv
    rw [e] at hv
    subst hv
    intro _
    refine ⟨?_, rfl⟩
    unfold bK; rw [e]
  | some m =>
    unfold RTK at hv
    rw [e] at hv
    subst hv
    intro _
    refine ⟨?_, rfl⟩
    unfold bK; rw [e]
/-! the reference's -/
theorem rGlyph_ok (q0 k : LD) (b : Int) (hn : q0.length ≤ 9223372036854775807) : SemF Try.prog 28 [.agg [.slc 0 2 0 q0.length, .slc 1 3 0 k.length], .int .u8 b] ⟨2, 2, [(0, .arr [.int .u8, .int .i64] .rd (.recs q0)), (1, .arr [.int .u8, .int .u8, .int .i64] .rd (.recs k))]⟩ (fun v _ => v = .int .i64 (match gi q0 b with | some i => (i : Int) | none => -1) ∧ nameless v = true) := by
  refine enter tt_ok Try.func28 (nt := 22) (cd := body Try.f28) rfl rfl rfl rfl ?_
  intro _
  refine loop2 tt_ok [5] [] 3 (fun i : { i : Nat // i ≤ q0.length ∧ ∀ j, j < i → gB q0 j ≠ b } => [(5, .int .i64 (i.1 : Nat))]) (fun _ => []) (fun i => q0.length - i.1) ⟨0, by omega, fun j hj => by omega⟩ ?_
  intro _
  refine ⟨⟨th [] 3, rfl, rfl, rfl, rfl, rfl, rfl, ?_, ?_⟩, ?_⟩
  · (repeat' first | exact trivial | exact rfl | refine And.intro ?_ ?_)
  · (repeat' first | exact trivial | exact rfl | refine And.intro ?_ ?_)
  intro ⟨i, h1, h2⟩
  intro _; refine ⟨fun g => ?_, fun g => ?_⟩
  rotate_left
  · have hkl := of_decide_eq_false (show decide ((i : Int) < (q0.length : Int)) = false from g)
    intro _
    refine ⟨?_, rfl⟩
    rw [gi_no (fun j hj => h2 j (by omega))]
  have hkl := of_decide_eq_true (show decide ((i : Int) < (q0.length : Int)) = true from g)
  intro _; refine ⟨show 0 ≤ (i : Int) ∧ (i : Int) < (q0.length : Int) by omega, ?_⟩
  intro _; refine ⟨show 0 + (i : Int).toNat < q0.length by omega, ?_⟩
  have ei : 0 + (i : Int).toNat = i := by omega
  intro _; refine ⟨fun g => ?_, fun g => ?_⟩
  · have e : (gB q0 (0 + (i : Int).toNat) == b) = true := g
    have e := eq_of_beq e
    rw [ei] at e
    intro _
    refine ⟨?_, rfl⟩
    rw [gi_eq (by omega) e h2]
  have e : (gB q0 (0 + (i : Int).toNat) == b) = false := g
  rw [ei] at e
  have e := beq_eq_false_iff_ne.1 e
  refine ⟨⟨i + 1, by omega, fun j hj => ?_⟩, by simp only []; omega, th [] 3, rfl, rfl, rfl, rfl, rfl, rfl, ?_, ?_⟩
  · rcases Nat.lt_or_ge j i with q | q
    · exact h2 j q
    · have : j = i := by omega
      subst this; exact e
  · (repeat' first | exact trivial | exact rfl | refine And.intro ?_ ?_)
    exact (wrap_nat i (by omega)).symm
  · (repeat' first | exact trivial | exact rfl | refine And.intro ?_ ?_)
theorem rKern_ok (q0 k : LD) (l r : Int) (hn : k.length ≤ 9223372036854775807) : SemF Try.prog 21 [.agg [.slc 0 2 0 q0.length, .slc 1 3 0 k.length], .int .u8 l, .int .u8 r] ⟨2, 2, [(0, .arr [.int .u8, .int .i64] .rd (.recs q0)), (1, .arr [.int .u8, .int .u8, .int .i64] .rd (.recs k))]⟩ (fun v _ => v = .int .i64 (bK k l r) ∧ nameless v = true) := by
  refine enter tt_ok Try.func21 (nt := 39) (cd := body Try.f21) rfl rfl rfl rfl ?_
  intro _
  refine loop2 tt_ok [7] [] 3 (fun i : { i : Nat // i ≤ k.length ∧ ∀ j, j < i → ¬ (kL k j = l ∧ kR k j = r) } => [(7, .int .i64 (i.1 : Nat))]) (fun _ => []) (fun i => k.length - i.1) ⟨0, by omega, fun j hj => by omega⟩ ?_
  intro _
  refine ⟨⟨th [] 3, rfl, rfl, rfl, rfl, rfl, rfl, ?_, ?_⟩, ?_⟩
  · (repeat' first | exact trivial | exact rfl | refine And.intro ?_ ?_)
  · (repeat' first | exact trivial | exact rfl | refine And.intro ?_ ?_)
  intro ⟨i, h1, h2⟩
  intro _; refine ⟨fun g => ?_, fun g => ?_⟩
  rotate_left
  · have hkl := of_decide_eq_false (show decide ((i : Int) < (k.length : Int)) = false from g)
    intro _
    refine ⟨?_, rfl⟩
    unfold bK; rw [ki_no (fun j hj => h2 j (by omega))]
  have hkl := of_decide_eq_true (show decide ((i : Int) < (k.length : Int)) = true from g)
  have ei : 0 + (i : Int).toNat = i := by omega
  have step : ¬ (kL k i = l ∧ kR k i = r) → ∀ j, j < i + 1 → ¬ (kL k j = l ∧ kR k j = r) := fun e j hj => by
    rcases Nat.lt_or_ge j i with q | q
    · exact h2 j q
    · have : j = i := by omega
      subst this; exact e
  intro _; refine ⟨show 0 ≤ (i : Int) ∧ (i : Int) < (k.length : Int) by omega, ?_⟩
  intro _; refine ⟨show 0 + (i : Int).toNat < k.length by omega, ?_⟩
  intro _; refine ⟨fun g => ?_, fun g => ?_⟩
  · have e : (kL k (0 + (i : Int).toNat) == l) = true := g
    have e := eq_of_beq e
    rw [ei] at e
    intro _; refine ⟨show 0 ≤ (i : Int) ∧ (i : Int) < (k.length : Int) by omega, ?_⟩
    intro _; refine ⟨show 0 + (i : Int).toNat < k.length by omega, ?_⟩
    intro _; refine ⟨fun g => ?_, fun g => ?_⟩
    · have e2 : (kR k (0 + (i : Int).toNat) == r) = true := g
      have e2 := eq_of_beq e2
      rw [ei] at e2
      intro _; refine ⟨show 0 ≤ (i : Int) ∧ (i : Int) < (k.length : Int) by omega, ?_⟩
      intro _; refine ⟨show 0 + (i : Int).toNat < k.length by omega, ?_⟩
      intro _
      refine ⟨?_, rfl⟩
      unfold bK; rw [ki_eq (by omega) e e2 h2]
      show V.int .i64 (kB k (0 + (i : Int).toNat)) = _
      rw [ei]
    have e2 : (kR k (0 + (i : Int).toNat) == r) = false := g
    rw [ei] at e2
    have e2 := beq_eq_false_iff_ne.1 e2
    refine ⟨⟨i + 1, by omega, step (fun q => e2 q.2)⟩, by simp only []; omega, th [] 3, rfl, rfl, rfl, rfl, rfl, rfl, ?_, ?_⟩
    · (repeat' first | exact trivial | exact rfl | refine And.intro ?_ ?_)
      exact (wrap_nat i (by omega)).symm
    · (repeat' first | exact trivial | exact rfl | refine And.intro ?_ ?_)
  have e : (kL k (0 + (i : Int).toNat) == l) = false := g
  rw [ei] at e
  have e := beq_eq_false_iff_ne.1 e
  refine ⟨⟨i + 1, by omega, step (fun q => e q.1)⟩, by simp only []; omega, th [] 3, rfl, rfl, rfl, rfl, rfl, rfl, ?_, ?_⟩
  · (repeat' first | exact trivial | exact rfl | refine And.intro ?_ ?_)
    exact (wrap_nat i (by omega)).symm
  · (repeat' first | exact trivial | exact rfl | refine And.intro ?_ ?_)
set_option maxRecDepth 100000
abbrev WG (g : LD) : Prop := ∀ i, i < g.length → 0 ≤ gB g i ∧ gB g i ≤ 255
def GP (g : LD) (i : Nat) : Prop := 32 ≤ gB g i ∧ gB g i ≤ 125 ∧ 0 ≤ gA g i ∧ gA g i ≤ 1000 ∧ (0 < i → gB g (i - 1) < gB g i)
instance decGP (g : LD) (i : Nat) : Decidable (GP g i) := inferInstanceAs (Decidable (_ ∧ _))
def GS (g : LD) : Prop := ∀ i, i < g.length → GP g i
instance decGS (g : LD) : Decidable (GS g) := inferInstanceAs (Decidable (∀ i, i < g.length → GP g i))
instance decKlt (a b c d : Int) : Decidable (klt a b c d) := inferInstanceAs (Decidable (_ ∨ _))
def KP (g k : LD) (i : Nat) : Prop := hG g (kL k i) = true ∧ hG g (kR k i) = true ∧ kB k i ≤ 1000 ∧ -aG g (kL k i) ≤ kB k i ∧ (0 < i → klt (kL k (i - 1)) (kR k (i - 1)) (kL k i) (kR k i))
instance decKP (g k : LD) (i : Nat) : Decidable (KP g k i) := inferInstanceAs (Decidable (_ ∧ _))
def KS (g k : LD) : Prop := ∀ i, i < k.length → KP g k i
instance decKS (g k : LD) : Decidable (KS g k) := inferInstanceAs (Decidable (∀ i, i < k.length → KP g k i))
def VF (g k : LD) : Prop := g.length ≤ 94 ∧ k.length ≤ 200 ∧ GS g ∧ KS g k
instance decVF (g k : LD) : Decidable (VF g k) := inferInstanceAs (Decidable (_ ∧ _))
theorem GS_GO {g : LD} (h : GS g) : GO g := by
  intro i j
  induction j with
  | zero => intro h1; omega
  | succ j ih =>
    intro h1 h2
    have s := (h (j + 1) h2).2.2.2.2 (by omega)
    rw [Nat.add_sub_cancel] at s
    rcases Nat.lt_or_ge i j with q | q
    · have := ih q (by omega); omega
    · have : i = j := by omega
      subst this; exact s
theorem KS_KO {g k : LD} (h : KS g k) : KO k := by
  intro i j
  induction j with
  | zero => intro h1; omega
  | succ j ih =>
    intro h1 h2
    have s := (h (j + 1) h2).2.2.2.2 (by omega)
    rw [Nat.add_sub_cancel] at s
    rcases Nat.lt_or_ge i j with q | q
    · have := ih q (by omega); unfold klt at *; omega
    · have : i = j := by omega
      subst this; exact s
theorem aG_bd {g : LD} (h : GS g) (b : Int) : 0 ≤ aG g b ∧ aG g b ≤ 1000 := by
  unfold aG
  split
  · rename_i i e
    obtain ⟨k1, _⟩ := gi_some e
    obtain ⟨_, _, a, b, _⟩ := h i k1
    exact ⟨a, b⟩
  · omega
theorem hG_some {g : LD} {b : Int} (h : hG g b = true) : ∃ i, gi g b = some i ∧ i < g.length ∧ aG g b = gA g i := by
  unfold hG at h
  obtain ⟨i, hi⟩ := Option.isSome_iff_exists.1 h
  refine ⟨i, hi, (gi_some hi).1, ?_⟩
  unfold aG; rw [hi]
theorem wr8 {n : Int} (h : 0 ≤ n ∧ n ≤ 255) : IntKind.i64.wrap n = n := wrapS n ⟨by omega, by omega⟩
theorem step_all {p : Nat → Prop} {i : Nat} (h : ∀ j, j < i → p j) (e : p i) : ∀ j, j < i + 1 → p j := fun j hj => by
  rcases Nat.lt_or_ge j i with q | q
  · exact h j q
  · have : j = i := by omega
    subst this; exact e
theorem vGlyphs_ok (q0 : LD) (hw : WG q0) (hn : q0.length ≤ 9223372036854775807) : SemF Try.prog 29 [.slc 0 2 0 q0.length] ⟨1, 1, [(0, .arr [.int .u8, .int .i64] .rd (.recs q0))]⟩ (fun v _ => v = .test (decide (GS q0)) ∧ nameless v = true) := by
  refine SemF.test ?_
  refine enter tt_ok Try.func29 (nt := 36) (cd := body Try.f29) rfl rfl rfl rfl ?_
  intro _
  refine loop2 tt_ok [8, 3] [] 1 (fun i : { i : Nat // i ≤ q0.length ∧ ∀ j, j < i → GP q0 j } => [(8, .int .i64 (i.1 : Nat)), (3, .int .i64 (if i.1 = 0 then 31 else gB q0 (i.1 - 1)))]) (fun _ => []) (fun i => q0.length - i.1) ⟨0, by omega, fun j hj => by omega⟩ ?_
  intro _
  refine ⟨⟨th [] 1, rfl, rfl, rfl, rfl, rfl, rfl, ?_, ?_⟩, ?_⟩
  · (repeat' first | exact trivial | exact rfl | refine And.intro ?_ ?_)
  · (repeat' first | exact trivial | exact rfl | refine And.intro ?_ ?_)
  intro ⟨i, h1, h2⟩
  intro _; refine ⟨fun g => ?_, fun g => ?_⟩
  rotate_left
  · have hkl := of_decide_eq_false (show decide ((i : Int) < (q0.length : Int)) = false from g)
    intro _
    exact ⟨true, .inl rfl, by rw [decide_eq_true (show GS q0 from fun j hj => h2 j (by omega))], rfl⟩
  have hkl := of_decide_eq_true (show decide ((i : Int) < (q0.length : Int)) = true from g)
  have hil : i < q0.length := by omega
  have ei : 0 + (i : Int).toNat = i := by omega
  have w8 := hw i hil
  have no : ¬ GP q0 i → (V.test false = .test (decide (GS q0)) ∧ nameless (V.test false) = true) := fun hh => ⟨by rw [decide_eq_false (fun h : GS q0 => hh (h i hil))], rfl⟩
  intro _; refine ⟨show 0 ≤ (i : Int) ∧ (i : Int) < (q0.length : Int) by omega, ?_⟩
  intro _; refine ⟨show 0 + (i : Int).toNat < q0.length by omega, ?_⟩
  intro _; refine ⟨fun g => ?_, fun g => ?_⟩
  · have g1 := of_decide_eq_true (show decide (IntKind.i64.wrap (gB q0 (0 + (i : Int).toNat)) ≤ (if i = 0 then 31 else gB q0 (i - 1))) = true from g)
    rw [ei, wr8 w8] at g1
    intro _
    exact ⟨false, .inl rfl, no (fun h => by
      obtain ⟨a, _, _, _, e⟩ := h
      split at g1
      · omega
      · have := e (by omega); omega)⟩
  have g1 := of_decide_eq_false (show decide (IntKind.i64.wrap (gB q0 (0 + (i : Int).toNat)) ≤ (if i = 0 then 31 else gB q0 (i - 1))) = false from g)
  rw [ei, wr8 w8] at g1
  intro _; refine ⟨fun g => ?_, fun g => ?_⟩
  · have g2 := of_decide_eq_true (show decide (gB q0 (0 + (i : Int).toNat) > 125) = true from g)
    rw [ei] at g2
    intro _
    exact ⟨false, .inl rfl, no (fun h => by have := h.2.1; omega)⟩
  have g2 := of_decide_eq_false (show decide (gB q0 (0 + (i : Int).toNat) > 125) = false from g)
  rw [ei] at g2
  intro _; refine ⟨fun g => ?_, fun g => ?_⟩
  · have g3 := of_decide_eq_true (show decide (gA q0 (0 + (i : Int).toNat) < 0) = true from g)
    rw [ei] at g3
    intro _
    exact ⟨false, .inl rfl, no (fun h => by have := h.2.2.1; omega)⟩
  have g3 := of_decide_eq_false (show decide (gA q0 (0 + (i : Int).toNat) < 0) = false from g)
  rw [ei] at g3
  intro _; refine ⟨fun g => ?_, fun g => ?_⟩
  · have g4 := of_decide_eq_true (show decide (gA q0 (0 + (i : Int).toNat) > 1000) = true from g)
    rw [ei] at g4
    intro _
    exact ⟨false, .inl rfl, no (fun h => by have := h.2.2.2.1; omega)⟩
  have g4 := of_decide_eq_false (show decide (gA q0 (0 + (i : Int).toNat) > 1000) = false from g)
  rw [ei] at g4
  have hgp : GP q0 i := by
    refine ⟨?_, by omega, by omega, by omega, fun h0 => ?_⟩
    · split at g1
      · omega
      · have := (h2 (i - 1) (by omega)).1; omega
    · rw [if_neg (by omega)] at g1; omega
  refine ⟨⟨i + 1, by omega, step_all h2 hgp⟩, by simp only []; omega, th [] 1, rfl, rfl, rfl, rfl, rfl, rfl, ?_, ?_⟩
  · (repeat' first | exact trivial | exact rfl | refine And.intro ?_ ?_)
    · exact (wrap_nat i (by omega)).symm
    · show gB q0 (i + 1 - 1) = IntKind.i64.wrap (gB q0 (0 + (i : Int).toNat))
      rw [ei, wr8 w8, Nat.add_sub_cancel]
  · (repeat' first | exact trivial | exact rfl | refine And.intro ?_ ?_)
theorem vKerns_ok (q0 k : LD) (hg : GS q0) (hn : q0.length ≤ 1000000) (hk : k.length ≤ 1000000) : SemF Try.prog 30 [.agg [.slc 0 2 0 q0.length, .slc 1 3 0 k.length]] ⟨2, 2, [(0, .arr [.int .u8, .int .i64] .rd (.recs q0)), (1, .arr [.int .u8, .int .u8, .int .i64] .rd (.recs k))]⟩ (fun v _ => v = .test (decide (KS q0 k)) ∧ nameless v = true) := by
  refine SemF.test ?_
  refine enter tt_ok Try.func30 (nt := 72) (cd := body Try.f30) rfl rfl rfl rfl ?_
  intro _
  refine loop2 tt_ok [13] [] 3 (fun i : { i : Nat // i ≤ k.length ∧ ∀ j, j < i → KP q0 k j } => [(13, .int .i64 (i.1 : Nat))]) (fun _ => []) (fun i => k.length - i.1) ⟨0, by omega, fun j hj => by omega⟩ ?_
  intro _
  refine ⟨⟨th [] 3, rfl, rfl, rfl, rfl, rfl, rfl, ?_, ?_⟩, ?_⟩
  · (repeat' first | exact trivial | exact rfl | refine And.intro ?_ ?_)
  · (repeat' first | exact trivial | exact rfl | refine And.intro ?_ ?_)
  intro ⟨i, h1, h2⟩
  intro _; refine ⟨fun g => ?_, fun g => ?_⟩
  rotate_left
  · have hkl := of_decide_eq_false (show decide ((i : Int) < (k.length : Int)) = false from g)
    intro _
    exact ⟨true, .inl rfl, by rw [decide_eq_true (show KS q0 k from fun j hj => h2 j (by omega))], rfl⟩
  have hkl := of_decide_eq_true (show decide ((i : Int) < (k.length : Int)) = true from g)
  have hil : i < k.length := by omega
  have ei : 0 + (i : Int).toNat = i := by omega
  have hgo := GS_GO hg
  have no : ¬ KP q0 k i → (V.test false = .test (decide (KS q0 k)) ∧ nameless (V.test false) = true) := fun hh => ⟨by rw [decide_eq_false (fun h : KS q0 k => hh (h i hil))], rfl⟩
  intro _; refine ⟨show 0 ≤ (i : Int) ∧ (i : Int) < (k.length : Int) by omega, ?_⟩
  intro _; refine ⟨show 0 + (i : Int).toNat < k.length by omega, ?_⟩
  intro _; refine ⟨fun g => ?_, fun g => ?_⟩
  · have g0 := of_decide_eq_true (show decide ((i : Int) > 0) = true from g)
    have ej : IntKind.i64.wrap ((i : Int) - 1) = ((i - 1 : Nat) : Int) := by rw [wrapS _ ⟨by omega, by omega⟩]; omega
    have ek : 0 + (IntKind.i64.wrap ((i : Int) - 1)).toNat = i - 1 := by rw [ej]; omega
    intro _; refine ⟨by rw [ej]; omega, ?_⟩
    intro _; refine ⟨show 0 + (IntKind.i64.wrap ((i : Int) - 1)).toNat < k.length by rw [ek]; omega, ?_⟩
    intro _
    refine Or.inl ?_
    intro _
    refine call_pure [] (cmp_ok (kL k (0 + (IntKind.i64.wrap ((i : Int) - 1)).toNat)) (kL k (0 + (i : Int).toNat))) rfl rfl rfl ?_ ?_ ?_
    · (repeat' first | exact trivial | exact rfl | refine And.intro ?_ ?_)
    · (repeat' first | exact trivial | exact rfl | refine And.intro ?_ ?_)
    intro v hv _
    subst hv
    intro _
    refine Or.inl ?_
    intro _
    refine call_pure [] (cmp_ok (kR k (0 + (IntKind.i64.wrap ((i : Int) - 1)).toNat)) (kR k (0 + (i : Int).toNat))) rfl rfl rfl ?_ ?_ ?_
    · (repeat' first | exact trivial | exact rfl | refine And.intro ?_ ?_)
    · (repeat' first | exact trivial | exact rfl | refine And.intro ?_ ?_)
    intro v hv _
    subst hv
    intro _
    refine Or.inl ?_
    intro _
    refine call_pure [(0, some 5)] (or_ok (cmpI (kL k (0 + (IntKind.i64.wrap ((i : Int) - 1)).toNat)) (kL k (0 + (i : Int).toNat))) (cmpI (kR k (0 + (IntKind.i64.wrap ((i : Int) - 1)).toNat)) (kR k (0 + (i : Int).toNat)))) rfl rfl rfl ?_ ?_ ?_
    · (repeat' first | exact trivial | exact rfl | refine And.intro ?_ ?_)
    · (repeat' first | exact trivial | exact rfl | refine And.intro ?_ ?_)
    intro v hv _
    subst hv
    intro _
    refine ⟨by kernel_rfl, ?_⟩
    intro _; refine ⟨fun g => ?_, fun g => ?_⟩
    · have g1 := of_decide_eq_true (show decide (orI (cmpI (kL k (0 + (IntKind.i64.wrap ((i : Int) - 1)).toNat)) (kL k (0 + (i : Int).toNat))) (cmpI (kR k (0 + (IntKind.i64.wrap ((i : Int) - 1)).toNat)) (kR k (0 + (i : Int).toNat))) ≥ 0) = true from g)
      rw [ei, ek] at g1
      intro _
      exact ⟨false, .inl rfl, no (fun h => by
        have := ordK_neg.2 (h.2.2.2.2 (by omega)); omega)⟩
    have g1 := of_decide_eq_false (show decide (orI (cmpI (kL k (0 + (IntKind.i64.wrap ((i : Int) - 1)).toNat)) (kL k (0 + (i : Int).toNat))) (cmpI (kR k (0 + (IntKind.i64.wrap ((i : Int) - 1)).toNat)) (kR k (0 + (i : Int).toNat))) ≥ 0) = false from g)
    rw [ei, ek] at g1
    have hlt : 0 < i → klt (kL k (i - 1)) (kR k (i - 1)) (kL k i) (kR k i) := fun _ => ordK_neg.1 (by omega)
    intro _
    refine call_pure [(0, some 0), (1, some 1)] (Adv_ok q0 k (kL k (0 + (i : Int).toNat)) hn hgo) rfl rfl rfl ?_ ?_ ?_
    · (repeat' first | exact trivial | exact rfl | refine And.intro ?_ ?_)
    · (repeat' first | exact trivial | exact rfl | refine And.intro ?_ ?_)
    intro v hv _
    subst hv
    intro _
    refine call_pure [(0, some 0), (1, some 1)] (Adv_ok q0 k (kR k (0 + (i : Int).toNat)) hn hgo) rfl rfl rfl ?_ ?_ ?_
    · (repeat' first | exact trivial | exact rfl | refine And.intro ?_ ?_)
    · (repeat' first | exact trivial | exact rfl | refine And.intro ?_ ?_)
    intro v hv _
    subst hv
    intro _; refine ⟨fun g => ?_, fun g => ?_⟩
    · have g2 : (!hG q0 (kL k (0 + (i : Int).toNat))) = true := g
      rw [ei, Bool.not_eq_true'] at g2
      intro _
      exact ⟨false, .inl rfl, no (fun h => by rw [h.1] at g2; cases g2)⟩
    have g2 : (!hG q0 (kL k (0 + (i : Int).toNat))) = false := g
    rw [ei, Bool.not_eq_false'] at g2
    intro _; refine ⟨fun g => ?_, fun g => ?_⟩
    · have g3 : (!hG q0 (kR k (0 + (i : Int).toNat))) = true := g
      rw [ei, Bool.not_eq_true'] at g3
      intro _
      exact ⟨false, .inl rfl, no (fun h => by rw [h.2.1] at g3; cases g3)⟩
    have g3 : (!hG q0 (kR k (0 + (i : Int).toNat))) = false := g
    rw [ei, Bool.not_eq_false'] at g3
    intro _; refine ⟨fun g => ?_, fun g => ?_⟩
    · have g4 := of_decide_eq_true (show decide (kB k (0 + (i : Int).toNat) > 1000) = true from g)
      rw [ei] at g4
      intro _
      exact ⟨false, .inl rfl, no (fun h => by have := h.2.2.1; omega)⟩
    have g4 := of_decide_eq_false (show decide (kB k (0 + (i : Int).toNat) > 1000) = false from g)
    rw [ei] at g4
    have ab := aG_bd hg (kL k i)
    have ew : IntKind.i64.wrap (0 - aG q0 (kL k i)) = - aG q0 (kL k i) := by rw [wrapS _ ⟨by omega, by omega⟩]; omega
    intro _; refine ⟨fun g => ?_, fun g => ?_⟩
    · have g5 := of_decide_eq_true (show decide (kB k (0 + (i : Int).toNat) < IntKind.i64.wrap (0 - aG q0 (kL k (0 + (i : Int).toNat)))) = true from g)
      rw [ei, ew] at g5
      intro _
      exact ⟨false, .inl rfl, no (fun h => by have := h.2.2.2.1; omega)⟩
    have g5 := of_decide_eq_false (show decide (kB k (0 + (i : Int).toNat) < IntKind.i64.wrap (0 - aG q0 (kL k (0 + (i : Int).toNat)))) = false from g)
    rw [ei, ew] at g5
    refine ⟨⟨i + 1, by omega, step_all h2 ⟨g2, g3, by omega, by omega, hlt⟩⟩, by simp only []; omega, th [] 3, rfl, rfl, rfl, rfl, rfl, rfl, ?_, ?_⟩
    · (repeat' first | exact trivial | exact rfl | refine And.intro ?_ ?_)
      exact (wrap_nat i (by omega)).symm
    · (repeat' first | exact trivial | exact rfl | refine And.intro ?_ ?_)
  have g0 := of_decide_eq_false (show decide ((i : Int) > 0) = false from g)
  have hlt : 0 < i → klt (kL k (i - 1)) (kR k (i - 1)) (kL k i) (kR k i) := fun h => by omega
  intro _
  refine call_pure [(0, some 0), (1, some 1)] (Adv_ok q0 k (kL k (0 + (i : Int).toNat)) hn hgo) rfl rfl rfl ?_ ?_ ?_
  · (repeat' first | exact trivial | exact rfl | refine And.intro ?_ ?_)
  · (repeat' first | exact trivial | exact rfl | refine And.intro ?_ ?_)
  intro v hv _
  subst hv
  intro _
  refine call_pure [(0, some 0), (1, some 1)] (Adv_ok q0 k (kR k (0 + (i : Int).toNat)) hn hgo) rfl rfl rfl ?_ ?_ ?_
  · (repeat' first | exact trivial | exact rfl | refine And.intro ?_ ?_)
  · (repeat' first | exact trivial | exact rfl | refine And.intro ?_ ?_)
  intro v hv _
  subst hv
  intro _; refine ⟨fun g => ?_, fun g => ?_⟩
  · have g2 : (!hG q0 (kL k (0 + (i : Int).toNat))) = true := g
    rw [ei, Bool.not_eq_true'] at g2
    intro _
    exact ⟨false, .inl rfl, no (fun h => by rw [h.1] at g2; cases g2)⟩
  have g2 : (!hG q0 (kL k (0 + (i : Int).toNat))) = false := g
  rw [ei, Bool.not_eq_false'] at g2
  intro _; refine ⟨fun g => ?_, fun g => ?_⟩
  · have g3 : (!hG q0 (kR k (0 + (i : Int).toNat))) = true := g
    rw [ei, Bool.not_eq_true'] at g3
    intro _
    exact ⟨false, .inl rfl, no (fun h => by rw [h.2.1] at g3; cases g3)⟩
  have g3 : (!hG q0 (kR k (0 + (i : Int).toNat))) = false := g
  rw [ei, Bool.not_eq_false'] at g3
  intro _; refine ⟨fun g => ?_, fun g => ?_⟩
  · have g4 := of_decide_eq_true (show decide (kB k (0 + (i : Int).toNat) > 1000) = true from g)
    rw [ei] at g4
    intro _
    exact ⟨false, .inl rfl, no (fun h => by have := h.2.2.1; omega)⟩
  have g4 := of_decide_eq_false (show decide (kB k (0 + (i : Int).toNat) > 1000) = false from g)
  rw [ei] at g4
  have ab := aG_bd hg (kL k i)
  have ew : IntKind.i64.wrap (0 - aG q0 (kL k i)) = - aG q0 (kL k i) := by rw [wrapS _ ⟨by omega, by omega⟩]; omega
  intro _; refine ⟨fun g => ?_, fun g => ?_⟩
  · have g5 := of_decide_eq_true (show decide (kB k (0 + (i : Int).toNat) < IntKind.i64.wrap (0 - aG q0 (kL k (0 + (i : Int).toNat)))) = true from g)
    rw [ei, ew] at g5
    intro _
    exact ⟨false, .inl rfl, no (fun h => by have := h.2.2.2.1; omega)⟩
  have g5 := of_decide_eq_false (show decide (kB k (0 + (i : Int).toNat) < IntKind.i64.wrap (0 - aG q0 (kL k (0 + (i : Int).toNat)))) = false from g)
  rw [ei, ew] at g5
  refine ⟨⟨i + 1, by omega, step_all h2 ⟨g2, g3, by omega, by omega, hlt⟩⟩, by simp only []; omega, th [] 3, rfl, rfl, rfl, rfl, rfl, rfl, ?_, ?_⟩
  · (repeat' first | exact trivial | exact rfl | refine And.intro ?_ ?_)
    exact (wrap_nat i (by omega)).symm
  · (repeat' first | exact trivial | exact rfl | refine And.intro ?_ ?_)
theorem Valid_ok (q0 k : LD) (hw : WG q0) (h1 : q0.length ≤ 9223372036854775807) (h2 : k.length ≤ 9223372036854775807) : SemF Try.prog 13 [.agg [.slc 0 2 0 q0.length, .slc 1 3 0 k.length]] ⟨2, 2, [(0, .arr [.int .u8, .int .i64] .rd (.recs q0)), (1, .arr [.int .u8, .int .u8, .int .i64] .rd (.recs k))]⟩ (fun v _ => v = .test (decide (VF q0 k)) ∧ nameless v = true) := by
  refine SemF.test ?_
  refine enter tt_ok Try.func13 (nt := 22) (cd := body Try.f13) rfl rfl rfl rfl ?_
  have no : ¬ VF q0 k → (V.test false = .test (decide (VF q0 k)) ∧ nameless (V.test false) = true) := fun hh => ⟨by rw [decide_eq_false hh], rfl⟩
  intro _; refine ⟨fun g => ?_, fun g => ?_⟩
  rotate_left
  · have g1 := of_decide_eq_false (show decide ((q0.length : Int) ≤ 94) = false from g)
    intro _
    exact ⟨false, .inl rfl, no (fun h => by have := h.1; omega)⟩
  have g1 := of_decide_eq_true (show decide ((q0.length : Int) ≤ 94) = true from g)
  intro _; refine ⟨fun g => ?_, fun g => ?_⟩
  rotate_left
  · have g2 := of_decide_eq_false (show decide ((k.length : Int) ≤ 200) = false from g)
    intro _
    exact ⟨false, .inl rfl, no (fun h => by have := h.2.1; omega)⟩
  have g2 := of_decide_eq_true (show decide ((k.length : Int) ≤ 200) = true from g)
  intro _
  refine call_pure [(0, some 0)] (vGlyphs_ok q0 hw h1) rfl rfl rfl ?_ ?_ ?_
  · (repeat' first | exact trivial | exact rfl | refine And.intro ?_ ?_)
  · (repeat' first | exact trivial | exact rfl | refine And.intro ?_ ?_)
  intro v hv _
  subst hv
  intro _; refine ⟨fun g => ?_, fun g => ?_⟩
  rotate_left
  · have g3 := of_decide_eq_false (show decide (GS q0) = false from g)
    intro _
    exact ⟨false, .inl rfl, no (fun h => g3 h.2.2.1)⟩
  have g3 := of_decide_eq_true (show decide (GS q0) = true from g)
  intro _
  refine call_pure [(0, some 0), (1, some 1)] (vKerns_ok q0 k g3 (by omega) (by omega)) rfl rfl rfl ?_ ?_ ?_
  · (repeat' first | exact trivial | exact rfl | refine And.intro ?_ ?_)
  · (repeat' first | exact trivial | exact rfl | refine And.intro ?_ ?_)
  intro v hv _
  subst hv
  intro _
  refine ⟨decide (KS q0 k), .inr rfl, ?_, rfl⟩
  congr 1
  exact decide_eq_decide.2 ⟨fun h => ⟨by omega, by omega, g3, h⟩, fun h => h.2.2.2⟩
set_option maxRecDepth 100000
def gx (g : LD) (b : Int) : Int := match gi g b with | some i => (i : Int) | none => -1
theorem gx_neg {g : LD} {b : Int} : gx g b < 0 ↔ hG g b = false := by
  unfold gx hG
  cases gi g b with
  | none => simp
  | some i => simp
theorem gx_pos {g : LD} {b : Int} (h : hG g b = true) : 0 ≤ gx g b ∧ gx g b < (g.length : Int) ∧ gA g (0 + (gx g b).toNat) = aG g b := by
  obtain ⟨i, h1, h2, h3⟩ := hG_some h
  unfold gx; rw [h1, h3]
  simp only []
  refine ⟨by omega, by omega, ?_⟩
  rw [show 0 + (i : Int).toNat = i by omega]
theorem rGl_ok (q0 k : LD) (b : Int) (hn : q0.length ≤ 9223372036854775807) : SemF Try.prog 28 [.agg [.slc 0 2 0 q0.length, .slc 1 3 0 k.length], .int .u8 b] ⟨2, 2, [(0, .arr [.int .u8, .int .i64] .rd (.recs q0)), (1, .arr [.int .u8, .int .u8, .int .i64] .rd (.recs k))]⟩ (fun v _ => v = .int .i64 (gx q0 b) ∧ nameless v = true) := rGlyph_ok q0 k b hn
set_option maxHeartbeats 1000000 in
theorem rVal_ok (q0 k : LD) (h1 : q0.length ≤ 9223372036854775807) (h2 : k.length ≤ 9223372036854775807) : SemF Try.prog 14 [.agg [.slc 0 2 0 q0.length, .slc 1 3 0 k.length]] ⟨2, 2, [(0, .arr [.int .u8, .int .i64] .rd (.recs q0)), (1, .arr [.int .u8, .int .u8, .int .i64] .rd (.recs k))]⟩ (fun v _ => v = .test (decide (VF q0 k)) ∧ nameless v = true) := by
  refine SemF.test ?_
  refine enter tt_ok Try.func14 (nt := 151) (cd := body Try.f14) rfl rfl rfl rfl ?_
  have no : ¬ VF q0 k → ∃ b, (V.bool false = .bool b ∨ V.bool false = .test b) ∧ (V.test b = .test (decide (VF q0 k)) ∧ nameless (V.test b) = true) := fun hh => ⟨false, .inl rfl, by rw [decide_eq_false hh], rfl⟩
  intro _; refine ⟨fun g => ?_, fun g => ?_⟩
  · have g1 := of_decide_eq_true (show decide ((q0.length : Int) > 94) = true from g)
    intro _
    exact no (fun h => by have := h.1; omega)
  have g1 := of_decide_eq_false (show decide ((q0.length : Int) > 94) = false from g)
  intro _; refine ⟨fun g => ?_, fun g => ?_⟩
  · have g2 := of_decide_eq_true (show decide ((k.length : Int) > 200) = true from g)
    intro _
    exact no (fun h => by have := h.2.1; omega)
  have g2 := of_decide_eq_false (show decide ((k.length : Int) > 200) = false from g)
  intro _
  refine loop2 tt_ok [3] [] 3 (fun i : { i : Nat // i ≤ q0.length ∧ ∀ j, j < i → GP q0 j } => [(3, .int .i64 (i.1 : Nat))]) (fun _ => []) (fun i => q0.length - i.1) ⟨0, by omega, fun j hj => by omega⟩ ?_
  intro _
  refine ⟨⟨th [] 3, rfl, rfl, rfl, rfl, rfl, rfl, ?_, ?_⟩, ?_⟩
  · (repeat' first | exact trivial | exact rfl | refine And.intro ?_ ?_)
  · (repeat' first | exact trivial | exact rfl | refine And.intro ?_ ?_)
  intro ⟨i, h3, h4⟩
  intro _; refine ⟨fun g => ?_, fun g => ?_⟩
  · have hkl := of_decide_eq_true (show decide ((i : Int) < (q0.length : Int)) = true from g)
    have hil : i < q0.length := by omega
    have ei : 0 + (i : Int).toNat = i := by omega
    intro _; refine ⟨show 0 ≤ (i : Int) ∧ (i : Int) < (q0.length : Int) by omega, ?_⟩
    intro _; refine ⟨show 0 + (i : Int).toNat < q0.length by omega, ?_⟩
    intro _; refine ⟨fun g => ?_, fun g => ?_⟩
    · have g3 := of_decide_eq_true (show decide (gB q0 (0 + (i : Int).toNat) < 32) = true from g)
      rw [ei] at g3
      intro _; refine ⟨by kernel_rfl, ?_⟩
      intro _
      exact no (fun h => by have := (h.2.2.1 i hil).1; omega)
    have g3 := of_decide_eq_false (show decide (gB q0 (0 + (i : Int).toNat) < 32) = false from g)
    rw [ei] at g3
    intro _; refine ⟨fun g => ?_, fun g => ?_⟩
    · have g4 := of_decide_eq_true (show decide (gB q0 (0 + (i : Int).toNat) > 125) = true from g)
      rw [ei] at g4
      intro _; refine ⟨by kernel_rfl, ?_⟩
      intro _
      exact no (fun h => by have := (h.2.2.1 i hil).2.1; omega)
    have g4 := of_decide_eq_false (show decide (gB q0 (0 + (i : Int).toNat) > 125) = false from g)
    rw [ei] at g4
    intro _; refine ⟨fun g => ?_, fun g => ?_⟩
    · have g5 := of_decide_eq_true (show decide (gA q0 (0 + (i : Int).toNat) < 0) = true from g)
      rw [ei] at g5
      intro _; refine ⟨by kernel_rfl, ?_⟩
      intro _
      exact no (fun h => by have := (h.2.2.1 i hil).2.2.1; omega)
    have g5 := of_decide_eq_false (show decide (gA q0 (0 + (i : Int).toNat) < 0) = false from g)
    rw [ei] at g5
    intro _; refine ⟨fun g => ?_, fun g => ?_⟩
    · have g6 := of_decide_eq_true (show decide (gA q0 (0 + (i : Int).toNat) > 1000) = true from g)
      rw [ei] at g6
      intro _; refine ⟨by kernel_rfl, ?_⟩
      intro _
      exact no (fun h => by have := (h.2.2.1 i hil).2.2.2.1; omega)
    have g6 := of_decide_eq_false (show decide (gA q0 (0 + (i : Int).toNat) > 1000) = false from g)
    rw [ei] at g6
    intro _; refine ⟨fun g => ?_, fun g => ?_⟩
    rotate_left
    · have g7 := of_decide_eq_false (show decide ((i : Int) > 0) = false from g)
      intro _; refine ⟨by kernel_rfl, ?_⟩
      refine ⟨⟨i + 1, by omega, step_all h4 ⟨by omega, by omega, by omega, by omega, fun h => by omega⟩⟩, by simp only []; omega, th [] 3, rfl, rfl, rfl, rfl, rfl, rfl, ?_, ?_⟩
      · (repeat' first | exact trivial | exact rfl | refine And.intro ?_ ?_)
        exact (wrap_nat i (by omega)).symm
      · (repeat' first | exact trivial | exact rfl | refine And.intro ?_ ?_)
    have g7 := of_decide_eq_true (show decide ((i : Int) > 0) = true from g)
    have ej : IntKind.i64.wrap ((i : Int) - 1) = ((i - 1 : Nat) : Int) := by rw [wrapS _ ⟨by omega, by omega⟩]; omega
    have ek : 0 + (IntKind.i64.wrap ((i : Int) - 1)).toNat = i - 1 := by rw [ej]; omega
    intro _; refine ⟨by rw [ej]; omega, ?_⟩
    intro _; refine ⟨show 0 + (IntKind.i64.wrap ((i : Int) - 1)).toNat < q0.length by rw [ek]; omega, ?_⟩
    intro _; refine ⟨by kernel_rfl, ?_⟩
    intro _; refine ⟨fun g => ?_, fun g => ?_⟩
    · have g8 := of_decide_eq_true (show decide (gB q0 (0 + (i : Int).toNat) ≤ gB q0 (0 + (IntKind.i64.wrap ((i : Int) - 1)).toNat)) = true from g)
      rw [ei, ek] at g8
      intro _
      exact no (fun h => by have := (h.2.2.1 i hil).2.2.2.2 (by omega); omega)
    have g8 := of_decide_eq_false (show decide (gB q0 (0 + (i : Int).toNat) ≤ gB q0 (0 + (IntKind.i64.wrap ((i : Int) - 1)).toNat)) = false from g)
    rw [ei, ek] at g8
    refine ⟨⟨i + 1, by omega, step_all h4 ⟨by omega, by omega, by omega, by omega, fun h => by omega⟩⟩, by simp only []; omega, th [] 3, rfl, rfl, rfl, rfl, rfl, rfl, ?_, ?_⟩
    · (repeat' first | exact trivial | exact rfl | refine And.intro ?_ ?_)
      exact (wrap_nat i (by omega)).symm
    · (repeat' first | exact trivial | exact rfl | refine And.intro ?_ ?_)
  have hkl := of_decide_eq_false (show decide ((i : Int) < (q0.length : Int)) = false from g)
  have hgs : GS q0 := fun j hj => h4 j (by omega)
  intro _
  refine loop2 tt_ok [5] [] 3 (fun i : { i : Nat // i ≤ k.length ∧ ∀ j, j < i → KP q0 k j } => [(5, .int .i64 (i.1 : Nat))]) (fun _ => []) (fun i => k.length - i.1) ⟨0, by omega, fun j hj => by omega⟩ ?_
  intro _
  refine ⟨⟨th [] 3, rfl, rfl, rfl, rfl, rfl, rfl, ?_, ?_⟩, ?_⟩
  · (repeat' first | exact trivial | exact rfl | refine And.intro ?_ ?_)
  · (repeat' first | exact trivial | exact rfl | refine And.intro ?_ ?_)
  intro ⟨m, h5, h6⟩
  intro _; refine ⟨fun g => ?_, fun g => ?_⟩
  rotate_left
  · have hkl := of_decide_eq_false (show decide ((m : Int) < (k.length : Int)) = false from g)
    intro _
    exact ⟨true, .inl rfl, by rw [decide_eq_true (show VF q0 k from ⟨by omega, by omega, hgs, fun j hj => h6 j (by omega)⟩)], rfl⟩
  have hkl := of_decide_eq_true (show decide ((m : Int) < (k.length : Int)) = true from g)
  have hil : m < k.length := by omega
  have ei : 0 + (m : Int).toNat = m := by omega
  have hgo := GS_GO hgs
  have no : ¬ KP q0 k m → ∃ b, (V.bool false = .bool b ∨ V.bool false = .test b) ∧ (V.test b = .test (decide (VF q0 k)) ∧ nameless (V.test b) = true) := fun hh => no (fun h => hh (h.2.2.2 m hil))
  intro _; refine ⟨show 0 ≤ (m : Int) ∧ (m : Int) < (k.length : Int) by omega, ?_⟩
  intro _; refine ⟨show 0 + (m : Int).toNat < k.length by omega, ?_⟩
  intro _
  refine call_pure [(0, some 0), (1, some 1)] (rGl_ok q0 k (kL k (0 + (m : Int).toNat)) (by omega)) rfl rfl rfl ?_ ?_ ?_
  · (repeat' first | exact trivial | exact rfl | refine And.intro ?_ ?_)
  · (repeat' first | exact trivial | exact rfl | refine And.intro ?_ ?_)
  intro v hv _
  subst hv
  intro _
  refine call_pure [(0, some 0), (1, some 1)] (rGl_ok q0 k (kR k (0 + (m : Int).toNat)) (by omega)) rfl rfl rfl ?_ ?_ ?_
  · (repeat' first | exact trivial | exact rfl | refine And.intro ?_ ?_)
  · (repeat' first | exact trivial | exact rfl | refine And.intro ?_ ?_)
  intro v hv _
  subst hv
  intro _; refine ⟨fun g => ?_, fun g => ?_⟩
  · have g2 := of_decide_eq_true (show decide (gx q0 (kL k (0 + (m : Int).toNat)) < 0) = true from g)
    rw [ei, gx_neg] at g2
    intro _; refine ⟨by kernel_rfl, ?_⟩
    intro _
    exact no (fun h => by rw [h.1] at g2; cases g2)
  have g2 := of_decide_eq_false (show decide (gx q0 (kL k (0 + (m : Int).toNat)) < 0) = false from g)
  rw [ei, gx_neg, Bool.not_eq_false] at g2
  intro _; refine ⟨fun g => ?_, fun g => ?_⟩
  · have g3 := of_decide_eq_true (show decide (gx q0 (kR k (0 + (m : Int).toNat)) < 0) = true from g)
    rw [ei, gx_neg] at g3
    intro _; refine ⟨by kernel_rfl, ?_⟩
    intro _
    exact no (fun h => by rw [h.2.1] at g3; cases g3)
  have g3 := of_decide_eq_false (show decide (gx q0 (kR k (0 + (m : Int).toNat)) < 0) = false from g)
  rw [ei, gx_neg, Bool.not_eq_false] at g3
  obtain ⟨p1, p2, p3⟩ := gx_pos g2
  have ab := aG_bd hgs (kL k m)
  intro _; refine ⟨fun g => ?_, fun g => ?_⟩
  · have g4 := of_decide_eq_true (show decide (kB k (0 + (m : Int).toNat) < -1000) = true from g)
    rw [ei] at g4
    intro _; refine ⟨by kernel_rfl, ?_⟩
    intro _
    exact no (fun h => by have := h.2.2.2.1; omega)
  have g4 := of_decide_eq_false (show decide (kB k (0 + (m : Int).toNat) < -1000) = false from g)
  rw [ei] at g4
  intro _; refine ⟨fun g => ?_, fun g => ?_⟩
  · have g5 := of_decide_eq_true (show decide (kB k (0 + (m : Int).toNat) > 1000) = true from g)
    rw [ei] at g5
    intro _; refine ⟨by kernel_rfl, ?_⟩
    intro _
    exact no (fun h => by have := h.2.2.1; omega)
  have g5 := of_decide_eq_false (show decide (kB k (0 + (m : Int).toNat) > 1000) = false from g)
  rw [ei] at g5
  have es : IntKind.i64.wrap (gA q0 (0 + (gx q0 (kL k (0 + (m : Int).toNat))).toNat) + kB k (0 + (m : Int).toNat)) = aG q0 (kL k m) + kB k m := by
    rw [ei, p3]; exact wrapS _ ⟨by omega, by omega⟩
  intro _; refine ⟨by rw [ei]; exact ⟨p1, p2⟩, ?_⟩
  intro _; refine ⟨show 0 + (gx q0 (kL k (0 + (m : Int).toNat))).toNat < q0.length by rw [ei]; omega, ?_⟩
  intro _; refine ⟨by kernel_rfl, ?_⟩
  intro _; refine ⟨fun g => ?_, fun g => ?_⟩
  · have g6 := of_decide_eq_true (show decide (IntKind.i64.wrap (gA q0 (0 + (gx q0 (kL k (0 + (m : Int).toNat))).toNat) + kB k (0 + (m : Int).toNat)) < 0) = true from g)
    rw [es] at g6
    intro _
    exact no (fun h => by have := h.2.2.2.1; omega)
  have g6 := of_decide_eq_false (show decide (IntKind.i64.wrap (gA q0 (0 + (gx q0 (kL k (0 + (m : Int).toNat))).toNat) + kB k (0 + (m : Int).toNat)) < 0) = false from g)
  rw [es] at g6
  have fin : (0 < m → klt (kL k (m - 1)) (kR k (m - 1)) (kL k m) (kR k m)) → KP q0 k m := fun h => ⟨g2, g3, by omega, by omega, h⟩
  intro _; refine ⟨fun g => ?_, fun g => ?_⟩
  rotate_left
  · have g7 := of_decide_eq_false (show decide ((m : Int) > 0) = false from g)
    intro _; refine ⟨by kernel_rfl, ?_⟩
    refine ⟨⟨m + 1, by omega, step_all h6 (fin fun h => by omega)⟩, by simp only []; omega, th [] 3, rfl, rfl, rfl, rfl, rfl, rfl, ?_, ?_⟩
    · (repeat' first | exact trivial | exact rfl | refine And.intro ?_ ?_)
      exact (wrap_nat m (by omega)).symm
    · (repeat' first | exact trivial | exact rfl | refine And.intro ?_ ?_)
  have g7 := of_decide_eq_true (show decide ((m : Int) > 0) = true from g)
  have ej : IntKind.i64.wrap ((m : Int) - 1) = ((m - 1 : Nat) : Int) := by rw [wrapS _ ⟨by omega, by omega⟩]; omega
  have ek : 0 + (IntKind.i64.wrap ((m : Int) - 1)).toNat = m - 1 := by rw [ej]; omega
  intro _; refine ⟨by rw [ej]; omega, ?_⟩
  intro _; refine ⟨show 0 + (IntKind.i64.wrap ((m : Int) - 1)).toNat < k.length by rw [ek]; omega, ?_⟩
  intro _; refine ⟨fun g => ?_, fun g => ?_⟩
  · have g8 := of_decide_eq_true (show decide (kL k (0 + (m : Int).toNat) < kL k (0 + (IntKind.i64.wrap ((m : Int) - 1)).toNat)) = true from g)
    rw [ei, ek] at g8
    intro _; refine ⟨by kernel_rfl, ?_⟩
    intro _
    exact no (fun h => by have := h.2.2.2.2 (by omega); unfold klt at this; omega)
  have g8 := of_decide_eq_false (show decide (kL k (0 + (m : Int).toNat) < kL k (0 + (IntKind.i64.wrap ((m : Int) - 1)).toNat)) = false from g)
  rw [ei, ek] at g8
  intro _; refine ⟨by rw [ej]; omega, ?_⟩
  intro _; refine ⟨show 0 + (IntKind.i64.wrap ((m : Int) - 1)).toNat < k.length by rw [ek]; omega, ?_⟩
  intro _; refine ⟨fun g => ?_, fun g => ?_⟩
  rotate_left
  · have g9 : (kL k (0 + (m : Int).toNat) == kL k (0 + (IntKind.i64.wrap ((m : Int) - 1)).toNat)) = false := g
    rw [ei, ek] at g9
    have g9 := beq_eq_false_iff_ne.1 g9
    intro _; refine ⟨by kernel_rfl, ?_⟩
    refine ⟨⟨m + 1, by omega, step_all h6 (fin fun h => .inl (by omega))⟩, by simp only []; omega, th [] 3, rfl, rfl, rfl, rfl, rfl, rfl, ?_, ?_⟩
    · (repeat' first | exact trivial | exact rfl | refine And.intro ?_ ?_)
      exact (wrap_nat m (by omega)).symm
    · (repeat' first | exact trivial | exact rfl | refine And.intro ?_ ?_)
  have g9 : (kL k (0 + (m : Int).toNat) == kL k (0 + (IntKind.i64.wrap ((m : Int) - 1)).toNat)) = true := g
  rw [ei, ek] at g9
  have g9 := eq_of_beq g9
  intro _; refine ⟨by rw [ej]; omega, ?_⟩
  intro _; refine ⟨show 0 + (IntKind.i64.wrap ((m : Int) - 1)).toNat < k.length by rw [ek]; omega, ?_⟩
  intro _; refine ⟨by kernel_rfl, ?_⟩
  intro _; refine ⟨fun g => ?_, fun g => ?_⟩
  · have ga := of_decide_eq_true (show decide (kR k (0 + (m : Int).toNat) ≤ kR k (0 + (IntKind.i64.wrap ((m : Int) - 1)).toNat)) = true from g)
    rw [ei, ek] at ga
    intro _
    exact no (fun h => by have := h.2.2.2.2 (by omega); unfold klt at this; omega)
  have ga := of_decide_eq_false (show decide (kR k (0 + (m : Int).toNat) ≤ kR k (0 + (IntKind.i64.wrap ((m : Int) - 1)).toNat)) = false from g)
  rw [ei, ek] at ga
  refine ⟨⟨m + 1, by omega, step_all h6 (fin fun h => .inr ⟨by omega, by omega⟩)⟩, by simp only []; omega, th [] 3, rfl, rfl, rfl, rfl, rfl, rfl, ?_, ?_⟩
  · (repeat' first | exact trivial | exact rfl | refine And.intro ?_ ?_)
    exact (wrap_nat m (by omega)).symm
  · (repeat' first | exact trivial | exact rfl | refine And.intro ?_ ?_)
set_option maxRecDepth 100000
def sA (g : LD) (u : List UInt8) : Nat → Int
  | 0 => 0
  | n + 1 => sA g u n + aG g (by' u n)
def sK (k : LD) (u : List UInt8) : Nat → Int
  | 0 => 0
  | n + 1 => sK k u n + (if 0 < n then bK k (by' u (n - 1)) (by' u n) else 0)
def RW (g k : LD) (u : List UInt8) : Int := sA g u u.length + sK k u u.length
theorem sA_bd {g : LD} (h : GS g) (u : List UInt8) : ∀ n : Nat, 0 ≤ sA g u n ∧ sA g u n ≤ 1000 * n
  | 0 => ⟨by simp [sA], by simp [sA]⟩
  | n + 1 => by
    have := sA_bd h u n
    have := aG_bd h (by' u n)
    simp only [sA]; omega
theorem bK_bd {g k : LD} (hg : GS g) (h : KS g k) (l r : Int) : -aG g l ≤ bK k l r ∧ bK k l r ≤ 1000 ∧ -1000 ≤ bK k l r := by
  have ha := aG_bd hg l
  unfold bK
  split
  · rename_i i e
    obtain ⟨k1, k2, k3, _⟩ := ki_some e
    obtain ⟨_, _, a, b, _⟩ := h i k1
    rw [k2] at b
    omega
  · omega
theorem sK_bd {g k : LD} (hg : GS g) (h : KS g k) (u : List UInt8) : ∀ n : Nat, -1000 * n ≤ sK k u n ∧ sK k u n ≤ 1000 * n
  | 0 => ⟨by simp [sK], by simp [sK]⟩
  | n + 1 => by
    have := sK_bd hg h u n
    have := bK_bd hg h (by' u (n - 1)) (by' u n)
    simp only [sK]
    split <;> omega
def HOK (g k : LD) (s : List UInt8) : Prop := VF g k ∧ VA s ∧ ∀ i, i < (sh s).length → hG g (by' (sh s) i) = true
instance decHOK (g k : LD) (s : List UInt8) : Decidable (HOK g k s) := inferInstanceAs (Decidable (_ ∧ _ ∧ ∀ i, i < (sh s).length → hG g (by' (sh s) i) = true))
def heI (g k : LD) (s : List UInt8) : Int := if VF g k ∧ VA s then 0 else 1
def rwI (g k : LD) (s : List UInt8) : Int := if HOK g k s then RW g k (sh s) else 0
def reI (g k : LD) (s : List UInt8) : Int := if VF g k ∧ VA s then (if HOK g k s then 0 else 20) else 1
theorem by_mem {s : List UInt8} {i : Nat} (h : i < s.length) : s.getD i 0 ∈ s := by
  rw [List.getD_eq_getElem?_getD, List.getElem?_eq_getElem h]; exact List.getElem_mem h
theorem VA_sh {s : List UInt8} (h : VA s) : VA (sh s) := by
  refine ⟨Nat.le_trans (List.length_filter_le _ _) h.1, fun i hi => ?_⟩
  have hm := by_mem hi
  have hm2 := (List.mem_filter.1 (show (sh s).getD i 0 ∈ s.filter fun b => b != 126 from hm)).1
  obtain ⟨j, hj, e⟩ := List.getElem_of_mem hm2
  have := h.2 j hj
  unfold by' at this ⊢
  rw [show s.getD j 0 = s[j] by rw [List.getD_eq_getElem?_getD, List.getElem?_eq_getElem hj]; rfl, e] at this
  exact this
theorem VA_low {s : List UInt8} (h : VA s) {i : Nat} (hi : i < s.length) : by' s i < 128 := by
  rcases Int.lt_or_le (by' s i) 128 with q | q
  · exact q
  · exact absurd (cl_high q) (h.2 i hi)
theorem by_range (s : List UInt8) (i : Nat) : 0 ≤ by' s i ∧ by' s i ≤ 255 := by
  unfold by'
  have := (s.getD i 0).toNat_lt
  omega
theorem rune8 {u : List UInt8} (h : VA u) {i : Nat} (hi : i < u.length) : IntKind.u8.wrap ((rune u i).1 : Int) = by' u i ∧ (rune u i).2 = 1 := by
  have er := rune_low hi (VA_low h hi)
  refine ⟨?_, by rw [er]⟩
  rw [er, wrap8]
  have := by_range u i
  show by' u i % 256 = by' u i
  omega
theorem nums_get (u : List UInt8) (i : Nat) : (nums u).getD i 0 = by' u i := by
  unfold nums by'
  rw [List.getD_eq_getElem?_getD, List.getD_eq_getElem?_getD, List.getElem?_map]
  cases u[i]? <;> rfl
/-- the reference's list of what is shown -/
theorem rSh_ok (s : List UInt8) (hl : s.length ≤ 1000000) : SemF Try.prog 20 [.str s] ⟨0, 0, []⟩ (fun v h' => v = .grw 0 (nums (sh s)).length ∧ h' = ⟨1, 0, [(0, .arr [.int .u8] .grow (.ints (nums (sh s))))]⟩) := by
  refine SemF.ret ?_
  refine enter tt_ok Try.func20 (nt := 22) (cd := body Try.f20) rfl rfl rfl rfl ?_
  intro _
  refine loop2 tt_ok [4, 3] [0] 1 (fun k : { k : Nat // k ≤ s.length } => [(4, .int .i64 (k : Nat)), (3, .grw 0 (sh (s.take k)).length)]) (fun k => [(0, .arr [.int .u8] .grow (.ints (nums (sh (s.take k)))))]) (fun k => s.length - k) ⟨0, by omega⟩ ?_
  intro _
  refine ⟨⟨th [(0, none)] 1, rfl, rfl, rfl, rfl, rfl, rfl, ?_, ?_⟩, ?_⟩
  · (repeat' first | exact trivial | exact rfl | refine And.intro ?_ ?_)
  · (repeat' first | exact trivial | exact rfl | refine And.intro ?_ ?_)
  intro ⟨k, hk⟩
  intro _; refine ⟨fun g => ?_, fun g => ?_⟩
  rotate_left
  · have hkl := of_decide_eq_false (show decide ((k : Int) < (s.length : Int)) = false from g)
    have hkl : k = s.length := by omega
    subst hkl
    intro _
    refine ⟨[(0, some 0)], .grw 0 (nums (sh s)).length, ⟨1, 0, [(0, .arr [.int .u8] .grow (.ints (nums (sh s))))]⟩, rfl, rfl, rfl, rfl, ?_, ?_, ?_, ?_⟩
    · (repeat' first | exact trivial | exact rfl | refine And.intro ?_ ?_)
      rw [nums_len, List.take_length]; (repeat' first | exact trivial | exact rfl | refine And.intro ?_ ?_)
    · (repeat' first | exact trivial | exact rfl | refine And.intro ?_ ?_)
      rw [List.take_length]; (repeat' first | exact trivial | exact rfl | refine And.intro ?_ ?_)
    · (repeat' first | exact trivial | exact rfl | refine And.intro ?_ ?_)
    · (repeat' first | exact trivial | exact rfl | refine And.intro ?_ ?_)
  have hkl := of_decide_eq_true (show decide ((k : Int) < (s.length : Int)) = true from g)
  have hkn : k < s.length := by omega
  have hs := sh_succ hkn
  have hn := sh_len s k
  intro _; refine ⟨show 0 ≤ (k : Int) ∧ (k : Int) < (s.length : Int) by omega, ?_⟩
  intro _; refine ⟨fun g => ?_, fun g => ?_⟩
  rotate_left
  · have g : (by' s k != 126) = false := g
    have g : by' s k = 126 := by simpa using g
    rw [if_pos g, List.append_nil] at hs
    refine ⟨⟨k + 1, by omega⟩, by simp; omega, th [] 1, rfl, rfl, rfl, rfl, rfl, rfl, ?_, ?_⟩
    · (repeat' first | exact trivial | exact rfl | refine And.intro ?_ ?_)
      · exact (wrap_nat k (by omega)).symm
      · rw [hs]; (repeat' first | exact trivial | exact rfl | refine And.intro ?_ ?_)
    · (repeat' first | exact trivial | exact rfl | refine And.intro ?_ ?_)
      rw [hs]; (repeat' first | exact trivial | exact rfl | refine And.intro ?_ ?_)
  have g : (by' s k != 126) = true := g
  have g : ¬ by' s k = 126 := by simpa using g
  rw [if_neg g] at hs
  intro _; refine ⟨show 0 ≤ (k : Int) ∧ (k : Int) < (s.length : Int) by omega, ?_⟩
  intro _; refine ⟨rfl, ?_⟩
  intro _; refine ⟨fun g3 => by simp at g3, fun _ => ?_⟩
  refine ⟨⟨(nums_len _).symm, show (sh (s.take k)).length + 1 ≤ 4611686018427387904 by omega, show ((sh (s.take k)).length + 1) * 1 ≤ 140737488355328 by omega⟩, ?_⟩
  refine ⟨⟨k + 1, by omega⟩, by simp; omega, th [(0, some 2)] 1, rfl, rfl, rfl, rfl, rfl, rfl, ?_, ?_⟩
  · (repeat' first | exact trivial | exact rfl | refine And.intro ?_ ?_)
    · exact (wrap_nat k (by omega)).symm
    · rw [hs, List.length_append]; (repeat' first | exact trivial | exact rfl | refine And.intro ?_ ?_)
  · (repeat' first | exact trivial | exact rfl | refine And.intro ?_ ?_)
    rw [hs, nums_app]
    rfl
theorem Shw_ok (s : List UInt8) (hV : VA s) : SemF Try.prog 26 [.str s] ⟨0, 0, []⟩ (fun v _ => v = .tup [.str (sh s), .int .i64 0] ∧ nameless v = true) := by
  have h := Shown_ok s (by have := hV.1; omega)
  unfold SQ at h
  rw [if_pos hV] at h
  exact h
theorem Has_ok (q0 k : LD) (s : List UInt8) (hw : WG q0) (h1 : q0.length ≤ 9223372036854775807) (h2 : k.length ≤ 9223372036854775807) (hl : s.length ≤ 9223372036854775807) : SemF Try.prog 11 [.agg [.slc 0 2 0 q0.length, .slc 1 3 0 k.length], .str s] ⟨2, 2, [(0, .arr [.int .u8, .int .i64] .rd (.recs q0)), (1, .arr [.int .u8, .int .u8, .int .i64] .rd (.recs k))]⟩ (fun v _ => v = .tup [.test (decide (HOK q0 k s)), .int .i64 (heI q0 k s)] ∧ nameless v = true) := by
  refine SemF.seen ?_
  refine enter tt_ok Try.func11 (nt := 39) (cd := body Try.f11) rfl rfl rfl rfl ?_
  intro _
  refine call_pure [(0, some 0), (1, some 1)] (Valid_ok q0 k hw h1 h2) rfl rfl rfl ?_ ?_ ?_
  · (repeat' first | exact trivial | exact rfl | refine And.intro ?_ ?_)
  · (repeat' first | exact trivial | exact rfl | refine And.intro ?_ ?_)
  intro v hv _
  subst hv
  have noV : ¬ (VF q0 k ∧ VA s) → V.tup [.test false, .int .i64 1] = V.tup [.test (decide (HOK q0 k s)), .int .i64 (heI q0 k s)] := fun hh => by
    rw [decide_eq_false (fun h : HOK q0 k s => hh ⟨h.1, h.2.1⟩)]; unfold heI; rw [if_neg hh]
  intro _; refine ⟨fun g => ?_, fun g => ?_⟩
  · have g : (!decide (VF q0 k)) = true := g
    rw [Bool.not_eq_true'] at g
    have g := of_decide_eq_false g
    intro _
    exact ⟨_, cv_test1, noV (fun h => g h.1), rfl⟩
  have g : (!decide (VF q0 k)) = false := g
  rw [Bool.not_eq_false'] at g
  have hVF := of_decide_eq_true g
  intro _
  refine call_pure [] (valid_ok s hl) rfl rfl rfl ?_ ?_ ?_
  · (repeat' first | exact trivial | exact rfl | refine And.intro ?_ ?_)
  · (repeat' first | exact trivial | exact rfl | refine And.intro ?_ ?_)
  intro v hv _
  subst hv
  intro _; refine ⟨fun g => ?_, fun g => ?_⟩
  · have g : (!decide (VA s)) = true := g
    rw [Bool.not_eq_true'] at g
    have g := of_decide_eq_false g
    intro _
    exact ⟨_, cv_test1, noV (fun h => g h.2), rfl⟩
  have g : (!decide (VA s)) = false := g
  rw [Bool.not_eq_false'] at g
  have hVA := of_decide_eq_true g
  have hgo := GS_GO hVF.2.2.1
  have hgl := hVF.1
  have hVS := VA_sh hVA
  have hE : heI q0 k s = 0 := by unfold heI; rw [if_pos ⟨hVF, hVA⟩]
  intro _
  refine call_pure [] (Shw_ok s hVA) rfl rfl rfl ?_ ?_ ?_
  · (repeat' first | exact trivial | exact rfl | refine And.intro ?_ ?_)
  · (repeat' first | exact trivial | exact rfl | refine And.intro ?_ ?_)
  intro v hv _
  subst hv
  intro _
  refine loop2 tt_ok [] [3] 4 (fun i : { i : Nat // i ≤ (sh s).length ∧ ∀ j, j < i → hG q0 (by' (sh s) j) = true } => []) (fun i => [(3, .sit (sh s) (i.1 : Nat))]) (fun i => (sh s).length - i.1) ⟨0, by omega, fun j hj => by omega⟩ ?_
  intro _
  refine ⟨⟨th [] 4, rfl, rfl, rfl, rfl, rfl, rfl, ?_, ?_⟩, ?_⟩
  · (repeat' first | exact trivial | exact rfl | refine And.intro ?_ ?_)
  · (repeat' first | exact trivial | exact rfl | refine And.intro ?_ ?_)
  intro ⟨i, h3, h4⟩
  intro _; refine ⟨fun g => ?_, fun g => ?_⟩
  rotate_left
  · have hkl := of_decide_eq_false (show decide (i < (sh s).length) = false from g)
    intro _
    refine ⟨_, cv_test1, ?_, rfl⟩
    rw [hE, decide_eq_true (show HOK q0 k s from ⟨hVF, hVA, fun j hj => h4 j (by omega)⟩)]
  have hkl := of_decide_eq_true (show decide (i < (sh s).length) = true from g)
  obtain ⟨e8, e1⟩ := rune8 hVS hkl
  intro _
  refine call_pure [(0, some 0), (1, some 1)] (Adv_ok q0 k (IntKind.u8.wrap ((rune (sh s) i).1 : Int)) (by omega) hgo) rfl rfl rfl ?_ ?_ ?_
  · (repeat' first | exact trivial | exact rfl | refine And.intro ?_ ?_)
  · (repeat' first | exact trivial | exact rfl | refine And.intro ?_ ?_)
  intro v hv _
  subst hv
  intro _; refine ⟨fun g => ?_, fun g => ?_⟩
  · have g : (!hG q0 (IntKind.u8.wrap ((rune (sh s) i).1 : Int))) = true := g
    rw [e8, Bool.not_eq_true'] at g
    intro _
    refine ⟨_, cv_test1, ?_, rfl⟩
    rw [hE, decide_eq_false (fun h : HOK q0 k s => by have := h.2.2 i hkl; rw [g] at this; cases this)]
  have g : (!hG q0 (IntKind.u8.wrap ((rune (sh s) i).1 : Int))) = false := g
  rw [e8, Bool.not_eq_false'] at g
  refine ⟨⟨i + 1, by omega, step_all h4 g⟩, by simp only []; omega, th [] 4, rfl, rfl, rfl, rfl, rfl, rfl, ?_, ?_⟩
  · (repeat' first | exact trivial | exact rfl | refine And.intro ?_ ?_)
  · (repeat' first | exact trivial | exact rfl | refine And.intro ?_ ?_)
    show i + 1 = i + (rune (sh s) i).2
    rw [e1]
theorem rHas_ok (q0 k : LD) (s : List UInt8) (h1 : q0.length ≤ 9223372036854775807) (h2 : k.length ≤ 9223372036854775807) (hl : s.length ≤ 9223372036854775807) : SemF Try.prog 12 [.agg [.slc 0 2 0 q0.length, .slc 1 3 0 k.length], .str s] ⟨2, 2, [(0, .arr [.int .u8, .int .i64] .rd (.recs q0)), (1, .arr [.int .u8, .int .u8, .int .i64] .rd (.recs k))]⟩ (fun v _ => v = .tup [.test (decide (HOK q0 k s)), .int .i64 (heI q0 k s)] ∧ nameless v = true) := by
  refine SemF.seen ?_
  refine enter tt_ok Try.func12 (nt := 35) (cd := body Try.f12) rfl rfl rfl rfl ?_
  intro _
  refine call_pure [(0, some 0), (1, some 1)] (rVal_ok q0 k h1 h2) rfl rfl rfl ?_ ?_ ?_
  · (repeat' first | exact trivial | exact rfl | refine And.intro ?_ ?_)
  · (repeat' first | exact trivial | exact rfl | refine And.intro ?_ ?_)
  intro v hv _
  subst hv
  intro _
  refine call_pure [] (rvalid_ok s hl) rfl rfl rfl ?_ ?_ ?_
  · (repeat' first | exact trivial | exact rfl | refine And.intro ?_ ?_)
  · (repeat' first | exact trivial | exact rfl | refine And.intro ?_ ?_)
  intro v hv _
  subst hv
  have noV : ¬ (VF q0 k ∧ VA s) → V.tup [.test false, .int .i64 1] = V.tup [.test (decide (HOK q0 k s)), .int .i64 (heI q0 k s)] := fun hh => by
    rw [decide_eq_false (fun h : HOK q0 k s => hh ⟨h.1, h.2.1⟩)]; unfold heI; rw [if_neg hh]
  intro _; refine ⟨fun g => ?_, fun g => ?_⟩
  · have g : (!decide (VF q0 k)) = true := g
    rw [Bool.not_eq_true'] at g
    have g := of_decide_eq_false g
    intro _
    exact ⟨_, cv_test1, noV (fun h => g h.1), rfl⟩
  have g : (!decide (VF q0 k)) = false := g
  rw [Bool.not_eq_false'] at g
  have hVF := of_decide_eq_true g
  intro _; refine ⟨fun g => ?_, fun g => ?_⟩
  · have g : (!decide (VA s)) = true := g
    rw [Bool.not_eq_true'] at g
    have g := of_decide_eq_false g
    intro _
    exact ⟨_, cv_test1, noV (fun h => g h.2), rfl⟩
  have g : (!decide (VA s)) = false := g
  rw [Bool.not_eq_false'] at g
  have hVA := of_decide_eq_true g
  have hE : heI q0 k s = 0 := by unfold heI; rw [if_pos ⟨hVF, hVA⟩]
  intro _
  refine call_new [] (rSh_ok s (by have := hVA.1; omega)) rfl rfl rfl rfl ?_ ?_ ?_
  · (repeat' first | exact trivial | exact rfl | refine And.intro ?_ ?_)
  · (repeat' first | exact trivial | exact rfl | refine And.intro ?_ ?_)
  intro v h' hv
  obtain ⟨rfl, rfl⟩ := hv
  refine ⟨[(3, some 0)], 4, [(3, .arr [.int .u8] .grow (.ints (nums (sh s))))], .grw 3 (nums (sh s)).length, rfl, rfl, rfl, rfl, rfl, ?_, ?_, ?_⟩
  · (repeat' first | exact trivial | exact rfl | refine And.intro ?_ ?_)
  · (repeat' first | exact trivial | exact rfl | refine And.intro ?_ ?_)
  have hN := nums_len (sh s)
  have hSl := (VA_sh hVA).1
  intro _
  refine loop2 tt_ok [9] [] 4 (fun i : { i : Nat // i ≤ (sh s).length ∧ ∀ j, j < i → hG q0 (by' (sh s) j) = true } => [(9, .int .i64 (i.1 : Nat))]) (fun _ => []) (fun i => (sh s).length - i.1) ⟨0, by omega, fun j hj => by omega⟩ ?_
  intro _
  refine ⟨⟨th [] 4, rfl, rfl, rfl, rfl, rfl, rfl, ?_, ?_⟩, ?_⟩
  · (repeat' first | exact trivial | exact rfl | refine And.intro ?_ ?_)
  · (repeat' first | exact trivial | exact rfl | refine And.intro ?_ ?_)
  intro ⟨i, h3, h4⟩
  intro _; refine ⟨fun g => ?_, fun g => ?_⟩
  rotate_left
  · have hkl := of_decide_eq_false (show decide ((i : Int) < ((nums (sh s)).length : Int)) = false from g)
    intro _
    refine ⟨_, cv_test1, ?_, rfl⟩
    rw [hE, decide_eq_true (show HOK q0 k s from ⟨hVF, hVA, fun j hj => h4 j (by omega)⟩)]
  have hkl := of_decide_eq_true (show decide ((i : Int) < ((nums (sh s)).length : Int)) = true from g)
  have en : (nums (sh s)).getD (i : Int).toNat 0 = by' (sh s) i := by rw [nums_get]; congr 1
  intro _; refine ⟨show 0 ≤ (i : Int) ∧ (i : Int) < ((nums (sh s)).length : Int) by omega, ?_⟩
  intro _; refine ⟨show (i : Int).toNat < (nums (sh s)).length by omega, ?_⟩
  intro _
  refine Or.inl ?_
  intro _
  refine call_pure [(0, some 0), (1, some 1)] (rGl_ok q0 k ((nums (sh s)).getD (i : Int).toNat 0) (by omega)) rfl rfl rfl ?_ ?_ ?_
  · (repeat' first | exact trivial | exact rfl | refine And.intro ?_ ?_)
  · (repeat' first | exact trivial | exact rfl | refine And.intro ?_ ?_)
  intro v hv _
  subst hv
  intro _
  refine ⟨by kernel_rfl, ?_⟩
  intro _; refine ⟨fun g => ?_, fun g => ?_⟩
  · have g := of_decide_eq_true (show decide (gx q0 ((nums (sh s)).getD (i : Int).toNat 0) < 0) = true from g)
    rw [en, gx_neg] at g
    intro _
    refine ⟨_, cv_test1, ?_, rfl⟩
    rw [hE, decide_eq_false (fun h : HOK q0 k s => by have := h.2.2 i (by omega); rw [g] at this; cases this)]
  have g := of_decide_eq_false (show decide (gx q0 ((nums (sh s)).getD (i : Int).toNat 0) < 0) = false from g)
  rw [en, gx_neg, Bool.not_eq_false] at g
  refine ⟨⟨i + 1, by omega, step_all h4 g⟩, by simp only []; omega, th [] 4, rfl, rfl, rfl, rfl, rfl, rfl, ?_, ?_⟩
  · (repeat' first | exact trivial | exact rfl | refine And.intro ?_ ?_)
    exact (wrap_nat i (by omega)).symm
  · (repeat' first | exact trivial | exact rfl | refine And.intro ?_ ?_)
set_option maxRecDepth 100000
theorem Raw_ok (q0 k : LD) (s : List UInt8) (hw : WG q0) (h1 : q0.length ≤ 9223372036854775807) (h2 : k.length ≤ 9223372036854775807) (hl : s.length ≤ 9223372036854775807) : SemF Try.prog 15 [.agg [.slc 0 2 0 q0.length, .slc 1 3 0 k.length], .str s] ⟨2, 2, [(0, .arr [.int .u8, .int .i64] .rd (.recs q0)), (1, .arr [.int .u8, .int .u8, .int .i64] .rd (.recs k))]⟩ (fun v _ => v = .tup [.int .i64 (rwI q0 k s), .int .i64 (reI q0 k s)] ∧ nameless v = true) := by
  refine enter tt_ok Try.func15 (nt := 59) (cd := body Try.f15) rfl rfl rfl rfl ?_
  intro _
  refine call_pure [(0, some 0), (1, some 1)] (Has_ok q0 k s hw h1 h2 hl) rfl rfl rfl ?_ ?_ ?_
  · (repeat' first | exact trivial | exact rfl | refine And.intro ?_ ?_)
  · (repeat' first | exact trivial | exact rfl | refine And.intro ?_ ?_)
  intro v hv _
  subst hv
  intro _; refine ⟨fun g => ?_, fun g => ?_⟩
  · have g : (heI q0 k s != 0) = true := g
    have hN : ¬ (VF q0 k ∧ VA s) := fun h => by unfold heI at g; rw [if_pos h] at g; exact absurd g (by decide)
    intro _
    refine ⟨?_, rfl⟩
    unfold rwI reI heI
    rw [if_neg hN, if_neg hN, if_neg (fun h : HOK q0 k s => hN ⟨h.1, h.2.1⟩)]
  have g : (heI q0 k s != 0) = false := g
  have hY : VF q0 k ∧ VA s := by
    refine Decidable.byContradiction fun h => ?_
    unfold heI at g; rw [if_neg h] at g; exact absurd g (by decide)
  obtain ⟨hVF, hVA⟩ := hY
  intro _; refine ⟨fun g => ?_, fun g => ?_⟩
  · have g : (!decide (HOK q0 k s)) = true := g
    rw [Bool.not_eq_true'] at g
    have g := of_decide_eq_false g
    intro _
    refine ⟨?_, rfl⟩
    unfold rwI reI
    rw [if_neg g, if_pos (show VF q0 k ∧ VA s from ⟨hVF, hVA⟩), if_neg g]
  have g : (!decide (HOK q0 k s)) = false := g
  rw [Bool.not_eq_false'] at g
  have hH := of_decide_eq_true g
  have hgs := hVF.2.2.1
  have hks := hVF.2.2.2
  have hgo := GS_GO hgs
  have hko := KS_KO hks
  have hgl := hVF.1
  have hkl0 := hVF.2.1
  have hVS := VA_sh hVA
  have hSl := hVS.1
  intro _
  refine call_pure [] (Shw_ok s hVA) rfl rfl rfl ?_ ?_ ?_
  · (repeat' first | exact trivial | exact rfl | refine And.intro ?_ ?_)
  · (repeat' first | exact trivial | exact rfl | refine And.intro ?_ ?_)
  intro v hv _
  subst hv
  intro _
  refine loop2 tt_ok [] [3, 4] 5 (fun i : { i : Nat // i ≤ (sh s).length } => []) (fun i => [(3, .cells [.int .i64 (sA q0 (sh s) i.1)]), (4, .sit (sh s) (i.1 : Nat))]) (fun i => (sh s).length - i.1) ⟨0, by omega⟩ ?_
  intro _
  refine ⟨⟨th [] 5, rfl, rfl, rfl, rfl, rfl, rfl, ?_, ?_⟩, ?_⟩
  · (repeat' first | exact trivial | exact rfl | refine And.intro ?_ ?_)
  · (repeat' first | exact trivial | exact rfl | refine And.intro ?_ ?_)
  intro ⟨i, h3⟩
  intro _; refine ⟨fun g => ?_, fun g => ?_⟩
  · have hkl := of_decide_eq_true (show decide (i < (sh s).length) = true from g)
    obtain ⟨e8, e1⟩ := rune8 hVS hkl
    have hb := sA_bd hgs (sh s) i
    have hb2 := aG_bd hgs (by' (sh s) i)
    intro _
    refine call_pure [(0, some 0), (1, some 1)] (Adv_ok q0 k (IntKind.u8.wrap ((rune (sh s) i).1 : Int)) (by omega) hgo) rfl rfl rfl ?_ ?_ ?_
    · (repeat' first | exact trivial | exact rfl | refine And.intro ?_ ?_)
    · (repeat' first | exact trivial | exact rfl | refine And.intro ?_ ?_)
    intro v hv _
    subst hv
    refine ⟨⟨i + 1, by omega⟩, by simp only []; omega, th [] 5, rfl, rfl, rfl, rfl, rfl, rfl, ?_, ?_⟩
    · (repeat' first | exact trivial | exact rfl | refine And.intro ?_ ?_)
    · (repeat' first | exact trivial | exact rfl | refine And.intro ?_ ?_)
      · show sA q0 (sh s) (i + 1) = IntKind.i64.wrap (sA q0 (sh s) i + aG q0 (IntKind.u8.wrap ((rune (sh s) i).1 : Int)))
        rw [e8, wrapS _ ⟨by omega, by omega⟩]; rfl
      · show i + 1 = i + (rune (sh s) i).2
        rw [e1]
  have hkl := of_decide_eq_false (show decide (i < (sh s).length) = false from g)
  have hi : i = (sh s).length := by omega
  subst hi
  intro _
  refine enter tt_ok Try.func31 (nt := 4) (cd := body Try.f31) rfl rfl rfl rfl ?_
  intro _
  intro _
  refine range_ok ?_
  intro _
  refine enter tt_ok Try.func42 (nt := 20) (cd := body Try.f42) rfl rfl rfl rfl ?_
  intro _
  refine loop2 tt_ok [3] [3] 8 (fun m : { m : Nat // 1 ≤ m ∧ (m ≤ (sh s).length ∨ m = 1) } => [(3, .int .i64 (m.1 : Nat))]) (fun m => [(3, .cells [.int .i64 (sA q0 (sh s) (sh s).length + sK k (sh s) m.1)])]) (fun m => (sh s).length + 1 - m.1) ⟨1, by omega, by omega⟩ ?_
  intro _
  refine ⟨⟨th [] 8, rfl, rfl, rfl, rfl, rfl, rfl, ?_, ?_⟩, ?_⟩
  · (repeat' first | exact trivial | exact rfl | refine And.intro ?_ ?_)
  · (repeat' first | exact trivial | exact rfl | refine And.intro ?_ ?_)
    all_goals (show sA q0 (sh s) (sh s).length + sK k (sh s) 1 = sA q0 (sh s) (sh s).length; simp [sK])
  intro ⟨m, h4, h5⟩
  have hb := sA_bd hgs (sh s) (sh s).length
  have hc := sK_bd hgs hks (sh s) m
  intro _; refine ⟨fun g => ?_, fun g => ?_⟩
  rotate_left
  · have hkl := of_decide_eq_false (show decide ((m : Int) < ((sh s).length : Int)) = false from g)
    intro _
    intro _
    refine ⟨?_, rfl⟩
    have e : sK k (sh s) m = sK k (sh s) (sh s).length := by
      rcases h5 with h5 | h5
      · have : m = (sh s).length := by omega
        rw [this]
      · subst h5
        rcases Nat.eq_zero_or_pos (sh s).length with q | q
        · rw [q]; simp [sK]
        · have : 1 = (sh s).length := by omega
          rw [← this]
    show V.tup [.int .i64 (sA q0 (sh s) (sh s).length + sK k (sh s) m), .int .i64 0] = _
    unfold rwI reI RW
    rw [if_pos hH, if_pos (show VF q0 k ∧ VA s from ⟨hVF, hVA⟩), if_pos hH, e]
  have hkl := of_decide_eq_true (show decide ((m : Int) < ((sh s).length : Int)) = true from g)
  have ej : IntKind.i64.wrap ((m : Int) - 1) = ((m - 1 : Nat) : Int) := by rw [wrapS _ ⟨by omega, by omega⟩]; omega
  have ex1 : by' (sh s) (IntKind.i64.wrap ((m : Int) - 1)).toNat = by' (sh s) (m - 1) := by rw [ej]; congr 1
  have hd := bK_bd hgs hks (by' (sh s) (m - 1)) (by' (sh s) m)
  intro _; refine ⟨by rw [ej]; omega, ?_⟩
  intro _; refine ⟨show 0 ≤ (m : Int) ∧ (m : Int) < ((sh s).length : Int) by omega, ?_⟩
  intro _
  refine Or.inr ?_
  intro _
  refine yield_ok tt_ok ?_
  intro _
  refine Or.inl ?_
  intro _
  refine call_pure [(0, some 0), (1, some 1)] (Krn_ok q0 k (by' (sh s) (IntKind.i64.wrap ((m : Int) - 1)).toNat) (by' (sh s) (m : Int).toNat) (by omega) hko) rfl rfl rfl ?_ ?_ ?_
  · (repeat' first | exact trivial | exact rfl | refine And.intro ?_ ?_)
  · (repeat' first | exact trivial | exact rfl | refine And.intro ?_ ?_)
  intro v hv _
  subst hv
  intro _
  refine ⟨by kernel_rfl, ?_⟩
  intro _
  intro _
  refine ⟨by kernel_rfl, ?_⟩
  refine ⟨⟨m + 1, by omega, by omega⟩, by simp only []; omega, th [] 8, rfl, rfl, rfl, rfl, rfl, rfl, ?_, ?_⟩
  · (repeat' first | exact trivial | exact rfl | refine And.intro ?_ ?_)
    exact (wrap_nat m (by omega)).symm
  · (repeat' first | exact trivial | exact rfl | refine And.intro ?_ ?_)
    rw [ex1]
    show sA q0 (sh s) (sh s).length + (sK k (sh s) m + (if 0 < m then bK k (by' (sh s) (m - 1)) (by' (sh s) m) else 0)) = IntKind.i64.wrap (sA q0 (sh s) (sh s).length + sK k (sh s) m + bK k (by' (sh s) (m - 1)) (by' (sh s) m))
    rw [if_pos (by omega), wrapS _ ⟨by omega, by omega⟩]
    omega
set_option maxRecDepth 100000
theorem rRaw_ok (q0 k : LD) (s : List UInt8) (h1 : q0.length ≤ 9223372036854775807) (h2 : k.length ≤ 9223372036854775807) (hl : s.length ≤ 9223372036854775807) : SemF Try.prog 16 [.agg [.slc 0 2 0 q0.length, .slc 1 3 0 k.length], .str s] ⟨2, 2, [(0, .arr [.int .u8, .int .i64] .rd (.recs q0)), (1, .arr [.int .u8, .int .u8, .int .i64] .rd (.recs k))]⟩ (fun v _ => v = .tup [.int .i64 (rwI q0 k s), .int .i64 (reI q0 k s)] ∧ nameless v = true) := by
  refine enter tt_ok Try.func16 (nt := 59) (cd := body Try.f16) rfl rfl rfl rfl ?_
  intro _
  refine call_pure [(0, some 0), (1, some 1)] (rHas_ok q0 k s h1 h2 hl) rfl rfl rfl ?_ ?_ ?_
  · (repeat' first | exact trivial | exact rfl | refine And.intro ?_ ?_)
  · (repeat' first | exact trivial | exact rfl | refine And.intro ?_ ?_)
  intro v hv _
  subst hv
  intro _; refine ⟨fun g => ?_, fun g => ?_⟩
  · have g : (heI q0 k s != 0) = true := g
    have hN : ¬ (VF q0 k ∧ VA s) := fun h => by unfold heI at g; rw [if_pos h] at g; exact absurd g (by decide)
    intro _
    refine ⟨?_, rfl⟩
    unfold rwI reI heI
    rw [if_neg hN, if_neg hN, if_neg (fun h : HOK q0 k s => hN ⟨h.1, h.2.1⟩)]
  have g : (heI q0 k s != 0) = false := g
  have hY : VF q0 k ∧ VA s := by
    refine Decidable.byContradiction fun h => ?_
    unfold heI at g; rw [if_neg h] at g; exact absurd g (by decide)
  obtain ⟨hVF, hVA⟩ := hY
  intro _; refine ⟨fun g => ?_, fun g => ?_⟩
  · have g : (!decide (HOK q0 k s)) = true := g
    rw [Bool.not_eq_true'] at g
    have g := of_decide_eq_false g
    intro _
    refine ⟨?_, rfl⟩
    unfold rwI reI
    rw [if_neg g, if_pos (show VF q0 k ∧ VA s from ⟨hVF, hVA⟩), if_neg g]
  have g : (!decide (HOK q0 k s)) = false := g
  rw [Bool.not_eq_false'] at g
  have hH := of_decide_eq_true g
  have hgs := hVF.2.2.1
  have hks := hVF.2.2.2
  have hgl := hVF.1
  have hkl0 := hVF.2.1
  have hVS := VA_sh hVA
  have hSl := hVS.1
  intro _
  refine call_new [] (rSh_ok s (by have := hVA.1; omega)) rfl rfl rfl rfl ?_ ?_ ?_
  · (repeat' first | exact trivial | exact rfl | refine And.intro ?_ ?_)
  · (repeat' first | exact trivial | exact rfl | refine And.intro ?_ ?_)
  intro v h' hv
  obtain ⟨rfl, rfl⟩ := hv
  refine ⟨[(3, some 0)], 4, [(3, .arr [.int .u8] .grow (.ints (nums (sh s))))], .grw 3 (nums (sh s)).length, rfl, rfl, rfl, rfl, rfl, ?_, ?_, ?_⟩
  · (repeat' first | exact trivial | exact rfl | refine And.intro ?_ ?_)
  · (repeat' first | exact trivial | exact rfl | refine And.intro ?_ ?_)
  have hN := nums_len (sh s)
  intro _
  refine loop2 tt_ok [10, 9] [] 4 (fun i : { i : Nat // i ≤ (sh s).length } => [(10, .int .i64 (i.1 : Nat)), (9, .int .i64 (sA q0 (sh s) i.1 + sK k (sh s) i.1))]) (fun _ => []) (fun i => (sh s).length - i.1) ⟨0, by omega⟩ ?_
  intro _
  refine ⟨⟨th [] 4, rfl, rfl, rfl, rfl, rfl, rfl, ?_, ?_⟩, ?_⟩
  · (repeat' first | exact trivial | exact rfl | refine And.intro ?_ ?_)
  · (repeat' first | exact trivial | exact rfl | refine And.intro ?_ ?_)
  intro ⟨i, h3⟩
  intro _; refine ⟨fun g => ?_, fun g => ?_⟩
  rotate_left
  · have hkl := of_decide_eq_false (show decide ((i : Int) < ((nums (sh s)).length : Int)) = false from g)
    have hi : i = (sh s).length := by omega
    subst hi
    intro _
    refine ⟨?_, rfl⟩
    show V.tup [.int .i64 (sA q0 (sh s) (sh s).length + sK k (sh s) (sh s).length), .int .i64 0] = _
    unfold rwI reI RW
    rw [if_pos hH, if_pos (show VF q0 k ∧ VA s from ⟨hVF, hVA⟩), if_pos hH]
  have hkl := of_decide_eq_true (show decide ((i : Int) < ((nums (sh s)).length : Int)) = true from g)
  have en : (nums (sh s)).getD (i : Int).toNat 0 = by' (sh s) i := by rw [nums_get]; congr 1
  have hb := sA_bd hgs (sh s) i
  have hb2 := aG_bd hgs (by' (sh s) i)
  have hc := sK_bd hgs hks (sh s) i
  obtain ⟨p1, p2, p3⟩ := gx_pos (hH.2.2 i (by omega))
  intro _; refine ⟨show 0 ≤ (i : Int) ∧ (i : Int) < ((nums (sh s)).length : Int) by omega, ?_⟩
  intro _; refine ⟨show (i : Int).toNat < (nums (sh s)).length by omega, ?_⟩
  intro _
  refine Or.inl ?_
  intro _
  refine call_pure [(0, some 0), (1, some 1)] (rGl_ok q0 k ((nums (sh s)).getD (i : Int).toNat 0) (by omega)) rfl rfl rfl ?_ ?_ ?_
  · (repeat' first | exact trivial | exact rfl | refine And.intro ?_ ?_)
  · (repeat' first | exact trivial | exact rfl | refine And.intro ?_ ?_)
  intro v hv _
  subst hv
  intro _; refine ⟨by rw [en]; exact ⟨p1, p2⟩, ?_⟩
  intro _; refine ⟨show 0 + (gx q0 ((nums (sh s)).getD (i : Int).toNat 0)).toNat < q0.length by rw [en]; omega, ?_⟩
  intro _
  refine ⟨by kernel_rfl, ?_⟩
  have ew : IntKind.i64.wrap (sA q0 (sh s) i + sK k (sh s) i + gA q0 (0 + (gx q0 ((nums (sh s)).getD (i : Int).toNat 0)).toNat)) = sA q0 (sh s) i + sK k (sh s) i + aG q0 (by' (sh s) i) := by
    rw [en, p3]; exact wrapS _ ⟨by omega, by omega⟩
  intro _; refine ⟨fun g => ?_, fun g => ?_⟩
  · have g0 := of_decide_eq_true (show decide ((i : Int) > 0) = true from g)
    have ej : IntKind.i64.wrap ((i : Int) - 1) = ((i - 1 : Nat) : Int) := by rw [wrapS _ ⟨by omega, by omega⟩]; omega
    have en1 : (nums (sh s)).getD (IntKind.i64.wrap ((i : Int) - 1)).toNat 0 = by' (sh s) (i - 1) := by rw [nums_get, ej]; congr 1
    have hd := bK_bd hgs hks (by' (sh s) (i - 1)) (by' (sh s) i)
    intro _; refine ⟨by rw [ej]; omega, ?_⟩
    intro _; refine ⟨show (IntKind.i64.wrap ((i : Int) - 1)).toNat < (nums (sh s)).length by rw [ej]; omega, ?_⟩
    intro _; refine ⟨show 0 ≤ (i : Int) ∧ (i : Int) < ((nums (sh s)).length : Int) by omega, ?_⟩
    intro _; refine ⟨show (i : Int).toNat < (nums (sh s)).length by omega, ?_⟩
    intro _
    refine Or.inl ?_
    intro _
    refine call_pure [(0, some 0), (1, some 1)] (rKern_ok q0 k ((nums (sh s)).getD (IntKind.i64.wrap ((i : Int) - 1)).toNat 0) ((nums (sh s)).getD (i : Int).toNat 0) (by omega)) rfl rfl rfl ?_ ?_ ?_
    · (repeat' first | exact trivial | exact rfl | refine And.intro ?_ ?_)
    · (repeat' first | exact trivial | exact rfl | refine And.intro ?_ ?_)
    intro v hv _
    subst hv
    intro _
    refine ⟨by kernel_rfl, ?_⟩
    refine ⟨⟨i + 1, by omega⟩, by simp only []; omega, th [] 4, rfl, rfl, rfl, rfl, rfl, rfl, ?_, ?_⟩
    · (repeat' first | exact trivial | exact rfl | refine And.intro ?_ ?_)
      · exact (wrap_nat i (by omega)).symm
      · show sA q0 (sh s) i + aG q0 (by' (sh s) i) + (sK k (sh s) i + (if 0 < i then bK k (by' (sh s) (i - 1)) (by' (sh s) i) else 0)) = IntKind.i64.wrap (IntKind.i64.wrap (sA q0 (sh s) i + sK k (sh s) i + gA q0 (0 + (gx q0 ((nums (sh s)).getD (i : Int).toNat 0)).toNat)) + bK k ((nums (sh s)).getD (IntKind.i64.wrap ((i : Int) - 1)).toNat 0) ((nums (sh s)).getD (i : Int).toNat 0))
        rw [ew, en, en1, if_pos (by omega), wrapS _ ⟨by omega, by omega⟩]; omega
    · (repeat' first | exact trivial | exact rfl | refine And.intro ?_ ?_)
  have g0 := of_decide_eq_false (show decide ((i : Int) > 0) = false from g)
  refine ⟨⟨i + 1, by omega⟩, by simp only []; omega, th [] 4, rfl, rfl, rfl, rfl, rfl, rfl, ?_, ?_⟩
  · (repeat' first | exact trivial | exact rfl | refine And.intro ?_ ?_)
    · exact (wrap_nat i (by omega)).symm
    · show sA q0 (sh s) i + aG q0 (by' (sh s) i) + (sK k (sh s) i + (if 0 < i then bK k (by' (sh s) (i - 1)) (by' (sh s) i) else 0)) = IntKind.i64.wrap (sA q0 (sh s) i + sK k (sh s) i + gA q0 (0 + (gx q0 ((nums (sh s)).getD (i : Int).toNat 0)).toNat))
      rw [ew, if_neg (by omega)]; omega
  · (repeat' first | exact trivial | exact rfl | refine And.intro ?_ ?_)
/-! widths -/
def CS (c : Int) : Prop := 50 ≤ c ∧ c ≤ 300
instance decCS (c : Int) : Decidable (CS c) := inferInstanceAs (Decidable (_ ∧ _))
def SC (r c : Int) : Int := (r * c + 99).tdiv 100
def wwI (g k : LD) (s : List UInt8) (c : Int) : Int := if CS c ∧ HOK g k s then SC (RW g k (sh s)) c else 0
def weI (g k : LD) (s : List UInt8) (c : Int) : Int := if CS c then reI g k s else 1
theorem RW_bd {g k : LD} {s : List UInt8} (h : HOK g k s) : -4000000 ≤ RW g k (sh s) ∧ RW g k (sh s) ≤ 4000000 := by
  have h1 := sA_bd h.1.2.2.1 (sh s) (sh s).length
  have h2 := sK_bd h.1.2.2.1 h.1.2.2.2 (sh s) (sh s).length
  have h3 := (VA_sh h.2.1).1
  unfold RW; omega
theorem mul_bd {r c : Int} (h : -4000000 ≤ r ∧ r ≤ 4000000) (hc : CS c) : -1200000000 ≤ r * c ∧ r * c ≤ 1200000000 := by
  obtain ⟨a, b⟩ := hc
  have h1 : r * c ≤ 4000000 * c := Int.mul_le_mul_of_nonneg_right h.2 (by omega)
  have h2 : -4000000 * c ≤ r * c := Int.mul_le_mul_of_nonneg_right h.1 (by omega)
  omega
theorem td100 (x : Int) (h : -2000000000 ≤ x ∧ x ≤ 2000000000) : -2000000000 ≤ x.tdiv 100 ∧ x.tdiv 100 ≤ 2000000000 := by
  rcases Int.le_total 0 x with q | q
  · rw [Int.tdiv_eq_ediv_of_nonneg q]; omega
  · have e : x = -(-x) := by omega
    rw [e, Int.neg_tdiv, Int.tdiv_eq_ediv_of_nonneg (by omega)]; omega
theorem SC_w {r c : Int} (h : -4000000 ≤ r ∧ r ≤ 4000000) (hc : CS c) : IntKind.i64.wrap ((IntKind.i64.wrap (IntKind.i64.wrap (r * c) + 99)).tdiv 100) = SC r c := by
  have := mul_bd h hc
  rw [wrapS (r * c) ⟨by omega, by omega⟩, wrapS (r * c + 99) ⟨by omega, by omega⟩]
  unfold SC
  have := td100 (r * c + 99) ⟨by omega, by omega⟩
  exact wrapS _ ⟨by omega, by omega⟩
theorem Width_ok (q0 k : LD) (s : List UInt8) (c : Int) (hw : WG q0) (h1 : q0.length ≤ 9223372036854775807) (h2 : k.length ≤ 9223372036854775807) (hl : s.length ≤ 9223372036854775807) : SemF Try.prog 17 [.agg [.slc 0 2 0 q0.length, .slc 1 3 0 k.length], .str s, .int .i64 c] ⟨2, 2, [(0, .arr [.int .u8, .int .i64] .rd (.recs q0)), (1, .arr [.int .u8, .int .u8, .int .i64] .rd (.recs k))]⟩ (fun v _ => v = .tup [.int .i64 (wwI q0 k s c), .int .i64 (weI q0 k s c)] ∧ nameless v = true) := by
  refine enter tt_ok Try.func17 (nt := 28) (cd := body Try.f17) rfl rfl rfl rfl ?_
  have noC : ¬ CS c → V.tup [.int .i64 0, .int .i64 1] = V.tup [.int .i64 (wwI q0 k s c), .int .i64 (weI q0 k s c)] := fun h => by
    unfold wwI weI; rw [if_neg (fun q : CS c ∧ HOK q0 k s => h q.1), if_neg h]
  intro _; refine ⟨fun g => ?_, fun g => ?_⟩
  · have g := of_decide_eq_true (show decide (c < 50) = true from g)
    intro _
    exact ⟨noC (fun h => by have := h.1; omega), rfl⟩
  have g1 := of_decide_eq_false (show decide (c < 50) = false from g)
  intro _; refine ⟨fun g => ?_, fun g => ?_⟩
  · have g := of_decide_eq_true (show decide (c > 300) = true from g)
    intro _
    exact ⟨noC (fun h => by have := h.2; omega), rfl⟩
  have g2 := of_decide_eq_false (show decide (c > 300) = false from g)
  have hC : CS c := ⟨by omega, by omega⟩
  intro _
  refine call_pure [(0, some 0), (1, some 1)] (Raw_ok q0 k s hw h1 h2 hl) rfl rfl rfl ?_ ?_ ?_
  · (repeat' first | exact trivial | exact rfl | refine And.intro ?_ ?_)
  · (repeat' first | exact trivial | exact rfl | refine And.intro ?_ ?_)
  intro v hv _
  subst hv
  intro _; refine ⟨fun g => ?_, fun g => ?_⟩
  · have g : (reI q0 k s != 0) = true := g
    have hH : ¬ HOK q0 k s := fun h => by
      unfold reI at g; rw [if_pos (show VF q0 k ∧ VA s from ⟨h.1, h.2.1⟩), if_pos h] at g; exact absurd g (by decide)
    intro _
    refine ⟨?_, rfl⟩
    unfold wwI weI; rw [if_neg (fun q : CS c ∧ HOK q0 k s => hH q.2), if_pos hC]
  have g : (reI q0 k s != 0) = false := g
  have hH : HOK q0 k s := by
    refine Decidable.byContradiction fun h => ?_
    unfold reI at g; rw [if_neg h] at g
    split at g <;> exact absurd g (by decide)
  have hr : rwI q0 k s = RW q0 k (sh s) := by unfold rwI; rw [if_pos hH]
  have he : reI q0 k s = 0 := by unfold reI; rw [if_pos (show VF q0 k ∧ VA s from ⟨hH.1, hH.2.1⟩), if_pos hH]
  intro _
  refine enter tt_ok Try.func33 (nt := 10) (cd := body Try.f33) rfl rfl rfl rfl ?_
  intro _; refine ⟨by decide, ?_⟩
  intro _
  intro _
  refine ⟨?_, rfl⟩
  show V.tup [.int .i64 (IntKind.i64.wrap ((IntKind.i64.wrap (IntKind.i64.wrap (rwI q0 k s * c) + 99)).tdiv 100)), .int .i64 0] = _
  unfold wwI weI; rw [if_pos (show CS c ∧ HOK q0 k s from ⟨hC, hH⟩), if_pos hC, he, hr, SC_w (RW_bd hH) hC]
theorem rWidth_ok (q0 k : LD) (s : List UInt8) (c : Int) (h1 : q0.length ≤ 9223372036854775807) (h2 : k.length ≤ 9223372036854775807) (hl : s.length ≤ 9223372036854775807) : SemF Try.prog 18 [.agg [.slc 0 2 0 q0.length, .slc 1 3 0 k.length], .str s, .int .i64 c] ⟨2, 2, [(0, .arr [.int .u8, .int .i64] .rd (.recs q0)), (1, .arr [.int .u8, .int .u8, .int .i64] .rd (.recs k))]⟩ (fun v _ => v = .tup [.int .i64 (wwI q0 k s c), .int .i64 (weI q0 k s c)] ∧ nameless v = true) := by
  refine enter tt_ok Try.func18 (nt := 41) (cd := body Try.f18) rfl rfl rfl rfl ?_
  intro _
  refine call_pure [(0, some 0), (1, some 1)] (rHas_ok q0 k s h1 h2 hl) rfl rfl rfl ?_ ?_ ?_
  · (repeat' first | exact trivial | exact rfl | refine And.intro ?_ ?_)
  · (repeat' first | exact trivial | exact rfl | refine And.intro ?_ ?_)
  intro v hv _
  subst hv
  have noC : ¬ CS c → V.tup [.int .i64 0, .int .i64 1] = V.tup [.int .i64 (wwI q0 k s c), .int .i64 (weI q0 k s c)] := fun h => by
    unfold wwI weI; rw [if_neg (fun q : CS c ∧ HOK q0 k s => h q.1), if_neg h]
  intro _; refine ⟨fun g => ?_, fun g => ?_⟩
  · have g : (heI q0 k s != 0) = true := g
    have hN : ¬ (VF q0 k ∧ VA s) := fun h => by unfold heI at g; rw [if_pos h] at g; exact absurd g (by decide)
    intro _
    refine ⟨?_, rfl⟩
    unfold wwI weI reI
    rw [if_neg (fun q : CS c ∧ HOK q0 k s => hN ⟨q.2.1, q.2.2.1⟩), if_neg hN]
    split <;> rfl
  have g : (heI q0 k s != 0) = false := g
  have hY : VF q0 k ∧ VA s := by
    refine Decidable.byContradiction fun h => ?_
    unfold heI at g; rw [if_neg h] at g; exact absurd g (by decide)
  intro _; refine ⟨fun g => ?_, fun g => ?_⟩
  · have g := of_decide_eq_true (show decide (c < 50) = true from g)
    intro _
    exact ⟨noC (fun h => by have := h.1; omega), rfl⟩
  have g1 := of_decide_eq_false (show decide (c < 50) = false from g)
  intro _; refine ⟨fun g => ?_, fun g => ?_⟩
  · have g := of_decide_eq_true (show decide (c > 300) = true from g)
    intro _
    exact ⟨noC (fun h => by have := h.2; omega), rfl⟩
  have g2 := of_decide_eq_false (show decide (c > 300) = false from g)
  have hC : CS c := ⟨by omega, by omega⟩
  intro _; refine ⟨fun g => ?_, fun g => ?_⟩
  · have g : (!decide (HOK q0 k s)) = true := g
    rw [Bool.not_eq_true'] at g
    have hH := of_decide_eq_false g
    intro _
    refine ⟨?_, rfl⟩
    unfold wwI weI reI; rw [if_neg (fun q : CS c ∧ HOK q0 k s => hH q.2), if_pos hC, if_pos hY, if_neg hH]
  have g : (!decide (HOK q0 k s)) = false := g
  rw [Bool.not_eq_false'] at g
  have hH := of_decide_eq_true g
  have hr : rwI q0 k s = RW q0 k (sh s) := by unfold rwI; rw [if_pos hH]
  have he : reI q0 k s = 0 := by unfold reI; rw [if_pos (show VF q0 k ∧ VA s from ⟨hH.1, hH.2.1⟩), if_pos hH]
  intro _
  refine call_pure [(0, some 0), (1, some 1)] (rRaw_ok q0 k s h1 h2 hl) rfl rfl rfl ?_ ?_ ?_
  · (repeat' first | exact trivial | exact rfl | refine And.intro ?_ ?_)
  · (repeat' first | exact trivial | exact rfl | refine And.intro ?_ ?_)
  intro v hv _
  subst hv
  intro _; refine ⟨by decide, ?_⟩
  intro _
  refine ⟨?_, rfl⟩
  show V.tup [.int .i64 (IntKind.i64.wrap ((IntKind.i64.wrap (IntKind.i64.wrap (rwI q0 k s * c) + 99)).tdiv 100)), .int .i64 0] = _
  unfold wwI weI; rw [if_pos (show CS c ∧ HOK q0 k s from ⟨hC, hH⟩), if_pos hC, he, hr, SC_w (RW_bd hH) hC]
def Fw (g k : LD) : Prop := (g.length : Int) ≤ 100 ∧ (k.length : Int) ≤ 210
instance decFw (g k : LD) : Decidable (Fw g k) := inferInstanceAs (Decidable (_ ∧ _))
theorem few_ok (q0 k : LD) : SemF Try.prog 9 [.agg [.slc 0 2 0 q0.length, .slc 1 3 0 k.length]] ⟨2, 2, [(0, .arr [.int .u8, .int .i64] .rd (.recs q0)), (1, .arr [.int .u8, .int .u8, .int .i64] .rd (.recs k))]⟩ (fun v _ => v = .test (decide (Fw q0 k)) ∧ nameless v = true) := by
  refine SemF.test ?_
  refine enter tt_ok Try.func9 (nt := 13) (cd := body Try.f9) rfl rfl rfl rfl ?_
  intro _; refine ⟨fun g => ?_, fun g => ?_⟩
  · have g := of_decide_eq_true (show decide ((q0.length : Int) ≤ 100) = true from g)
    intro _
    refine ⟨decide ((k.length : Int) ≤ 210), .inr rfl, ?_, rfl⟩
    congr 1
    exact decide_eq_decide.2 ⟨fun h => ⟨g, h⟩, fun h => h.2⟩
  have g := of_decide_eq_false (show decide ((q0.length : Int) ≤ 100) = false from g)
  intro _
  exact ⟨false, .inl rfl, by rw [decide_eq_false (fun h : Fw q0 k => g h.1)], rfl⟩
def US (g k : LD) (s : List UInt8) : Prop := Fw g k ∧ s.length ≤ 300 ∧ HOK g k s
instance decUS (g k : LD) (s : List UInt8) : Decidable (US g k s) := inferInstanceAs (Decidable (_ ∧ _))
theorem usable_ok (q0 k : LD) (s : List UInt8) (hl : s.length ≤ 9223372036854775807) : SemF Try.prog 19 [.agg [.slc 0 2 0 q0.length, .slc 1 3 0 k.length], .str s] ⟨2, 2, [(0, .arr [.int .u8, .int .i64] .rd (.recs q0)), (1, .arr [.int .u8, .int .u8, .int .i64] .rd (.recs k))]⟩ (fun v _ => v = .test (decide (US q0 k s)) ∧ nameless v = true) := by
  refine SemF.test ?_
  refine enter tt_ok Try.func19 (nt := 26) (cd := body Try.f19) rfl rfl rfl rfl ?_
  intro _
  refine call_pure [(0, some 0), (1, some 1)] (few_ok q0 k) rfl rfl rfl ?_ ?_ ?_
  · (repeat' first | exact trivial | exact rfl | refine And.intro ?_ ?_)
  · (repeat' first | exact trivial | exact rfl | refine And.intro ?_ ?_)
  intro v hv _
  subst hv
  intro _; refine ⟨fun g => ?_, fun g => ?_⟩
  · have g : (!decide (Fw q0 k)) = true := g
    rw [Bool.not_eq_true'] at g
    have g := of_decide_eq_false g
    intro _
    exact ⟨false, .inl rfl, by rw [decide_eq_false (fun h : US q0 k s => g h.1)], rfl⟩
  have g : (!decide (Fw q0 k)) = false := g
  rw [Bool.not_eq_false'] at g
  have hF := of_decide_eq_true g
  have hF1 := hF.1
  have hF2 := hF.2
  intro _; refine ⟨fun g => ?_, fun g => ?_⟩
  · have g := of_decide_eq_true (show decide ((s.length : Int) > 300) = true from g)
    intro _
    exact ⟨false, .inl rfl, by rw [decide_eq_false (fun h : US q0 k s => by have := h.2.1; omega)], rfl⟩
  have g3 := of_decide_eq_false (show decide ((s.length : Int) > 300) = false from g)
  intro _
  refine call_pure [(0, some 0), (1, some 1)] (rHas_ok q0 k s (by omega) (by omega) hl) rfl rfl rfl ?_ ?_ ?_
  · (repeat' first | exact trivial | exact rfl | refine And.intro ?_ ?_)
  · (repeat' first | exact trivial | exact rfl | refine And.intro ?_ ?_)
  intro v hv _
  subst hv
  intro _; refine ⟨fun g => ?_, fun g => ?_⟩
  · have hH := of_decide_eq_true (show decide (HOK q0 k s) = true from g)
    have he : heI q0 k s = 0 := by unfold heI; rw [if_pos ⟨hH.1, hH.2.1⟩]
    intro _
    refine ⟨(heI q0 k s == 0), .inr rfl, ?_, rfl⟩
    rw [he, decide_eq_true (show US q0 k s from ⟨hF, by omega, hH⟩)]; rfl
  have hH := of_decide_eq_false (show decide (HOK q0 k s) = false from g)
  intro _
  exact ⟨false, .inl rfl, by rw [decide_eq_false (fun h : US q0 k s => hH h.2.2)], rfl⟩
theorem letters_ok : SemF Try.prog 10 [] ⟨0, 0, []⟩ (fun v _ => v = .str (List.replicate 2001 97) ∧ nameless v = true) := by
  refine enter tt_ok Try.func10 (nt := 15) (cd := body Try.f10) rfl rfl rfl rfl ?_
  intro _; refine ⟨by decide, ?_⟩
  intro _; refine ⟨rfl, ?_⟩
  intro _
  refine loop2 tt_ok [6] [0] 1 (fun i : { i : Nat // i ≤ 2001 } => [(6, .int .i64 (i.1 : Nat))]) (fun i => [(0, .arr [.int .u8] .own (.ints (List.replicate i.1 97 ++ List.replicate (2001 - i.1) 0)))]) (fun i => 2001 - i.1) ⟨0, by omega⟩ ?_
  intro _
  refine ⟨⟨th [] 1, rfl, rfl, rfl, rfl, rfl, rfl, ?_, ?_⟩, ?_⟩
  · (repeat' first | exact trivial | exact rfl | refine And.intro ?_ ?_)
  · (repeat' first | exact trivial | exact rfl | refine And.intro ?_ ?_)
  intro ⟨i, h3⟩
  have hlen : (List.replicate i (97 : Int) ++ List.replicate (2001 - i) 0).length = 2001 := by simp; omega
  intro _; refine ⟨fun g => ?_, fun g => ?_⟩
  rotate_left
  · have hkl := of_decide_eq_false (show decide ((i : Int) < 2001) = false from g)
    have hi : i = 2001 := by omega
    subst hi
    intro _; refine ⟨hlen.symm, ?_⟩
    intro _
    refine ⟨?_, rfl⟩
    show V.str ((List.replicate 2001 (97 : Int) ++ List.replicate (2001 - 2001) 0).map fun n : Int => UInt8.ofNat n.toNat) = _
    simp
  have hkl := of_decide_eq_true (show decide ((i : Int) < 2001) = true from g)
  intro _; refine ⟨show 0 ≤ (i : Int) ∧ (i : Int) < (2001 : Nat) by omega, ?_⟩
  intro _; refine ⟨show (i : Int).toNat < (List.replicate i (97 : Int) ++ List.replicate (2001 - i) 0).length by rw [hlen]; omega, ?_⟩
  refine ⟨⟨i + 1, by omega⟩, by simp only []; omega, th [] 1, rfl, rfl, rfl, rfl, rfl, rfl, ?_, ?_⟩
  · (repeat' first | exact trivial | exact rfl | refine And.intro ?_ ?_)
    exact (wrap_nat i (by omega)).symm
  · (repeat' first | exact trivial | exact rfl | refine And.intro ?_ ?_)
    show List.replicate (i + 1) (97 : Int) ++ List.replicate (2001 - (i + 1)) 0 = (List.replicate i (97 : Int) ++ List.replicate (2001 - i) 0).set (i : Int).toNat 97
    have e : 2001 - i = (2001 - (i + 1)) + 1 := by omega
    rw [Int.toNat_natCast, e, List.replicate_succ (n := 2001 - (i + 1))]
    rw [List.set_append_right _ _ (by simp), List.length_replicate, Nat.sub_self, List.set_cons_zero]
    rw [List.replicate_succ', List.append_assoc]; rfl
set_option maxRecDepth 100000
theorem wfg {q0 : LD} (h : ∀ n ∈ q0, rowWf [.int .u8, .int .i64] n) : WG q0 := by
  intro i hi
  have hm : q0.getD i [] ∈ q0 := by
    rw [List.getD_eq_getElem?_getD, List.getElem?_eq_getElem hi]; exact List.getElem_mem hi
  obtain ⟨n, e, hw⟩ := (h _ hm).2 0 (.int .u8) rfl
  simp [Lit.wf, IntKind.min, IntKind.max, IntKind.signed, IntKind.bits] at hw
  unfold gB cI
  rw [e]
  exact ⟨by show 0 ≤ n; omega, by show n ≤ 255; omega⟩
theorem bq {b : Bool} : ¬ (b == b) = false := by simp
theorem bqi {b : Int} : ¬ (b == b) = false := by simp
set_option maxHeartbeats 1000000 in
theorem law3 (q0 k : LD) (s : List UInt8) (c : Int) (lg : Bool) (hw : WG q0) (h1 : q0.length ≤ 9223372036854775807) (h2 : k.length ≤ 9223372036854775807) (hl : s.length ≤ 9223372036854775807) : SemF Try.prog 3 [.agg [.slc 0 2 0 q0.length, .slc 1 3 0 k.length], .str s, .int .i64 c, .test lg] ⟨2, 2, [(0, .arr [.int .u8, .int .i64] .ro (.recs q0)), (1, .arr [.int .u8, .int .u8, .int .i64] .ro (.recs k))]⟩ (fun v _ => IsTrue v) := by
  refine enter tt_ok Try.func3 (nt := 106) (cd := body Try.f3) rfl rfl rfl rfl ?_
  intro _
  refine head_ok rfl Try.func8 (cd := body Try.f8) rfl ?_
  intro _
  refine call_pure [(0, some 0), (1, some 1)] (few_ok q0 k) rfl rfl rfl ?_ ?_ ?_
  · (repeat' first | exact trivial | exact rfl | refine And.intro ?_ ?_)
  · (repeat' first | exact trivial | exact rfl | refine And.intro ?_ ?_)
  intro v hv _
  subst hv
  intro _; refine ⟨fun g => ?_, fun g => ?_⟩
  · intro _
    rfl
  intro _; refine ⟨fun g => ?_, fun g => ?_⟩
  · intro _
    rfl
  intro _; refine ⟨fun g => ?_, fun g => ?_⟩
  · intro _
    refine call_pure [] (letters_ok) rfl rfl rfl ?_ ?_ ?_
    · (repeat' first | exact trivial | exact rfl | refine And.intro ?_ ?_)
    · (repeat' first | exact trivial | exact rfl | refine And.intro ?_ ?_)
    intro v hv _
    subst hv
    intro _
    refine call_pure [(0, some 0), (1, some 1)] (Has_ok q0 k (List.replicate 2001 97) hw h1 h2 (by simp)) rfl rfl rfl ?_ ?_ ?_
    · (repeat' first | exact trivial | exact rfl | refine And.intro ?_ ?_)
    · (repeat' first | exact trivial | exact rfl | refine And.intro ?_ ?_)
    intro v hv _
    subst hv
    intro _
    refine call_pure [(0, some 0), (1, some 1)] (rHas_ok q0 k (List.replicate 2001 97) h1 h2 (by simp)) rfl rfl rfl ?_ ?_ ?_
    · (repeat' first | exact trivial | exact rfl | refine And.intro ?_ ?_)
    · (repeat' first | exact trivial | exact rfl | refine And.intro ?_ ?_)
    intro v hv _
    subst hv
    intro _
    refine Or.inl ?_
    intro _
    refine call_pure [(0, some 0), (1, some 1)] (Valid_ok q0 k hw h1 h2) rfl rfl rfl ?_ ?_ ?_
    · (repeat' first | exact trivial | exact rfl | refine And.intro ?_ ?_)
    · (repeat' first | exact trivial | exact rfl | refine And.intro ?_ ?_)
    intro v hv _
    subst hv
    intro _
    refine Or.inl ?_
    intro _
    refine call_pure [(0, some 0), (1, some 1)] (rVal_ok q0 k h1 h2) rfl rfl rfl ?_ ?_ ?_
    · (repeat' first | exact trivial | exact rfl | refine And.intro ?_ ?_)
    · (repeat' first | exact trivial | exact rfl | refine And.intro ?_ ?_)
    intro v hv _
    subst hv
    intro _; refine ⟨fun g => ?_, fun g => ?_⟩
    rotate_left
    · exact absurd (show (decide (VF q0 k) == decide (VF q0 k)) = false from g) bq
    intro _; refine ⟨fun g => ?_, fun g => ?_⟩
    rotate_left
    · exact absurd (show (decide (HOK q0 k (List.replicate 2001 97)) == decide (HOK q0 k (List.replicate 2001 97))) = false from g) bq
    intro _; refine ⟨by kernel_rfl, ?_⟩
    intro _
    refine call_pure [(0, some 0), (1, some 1)] (Raw_ok q0 k (List.replicate 2001 97) hw h1 h2 (by simp)) rfl rfl rfl ?_ ?_ ?_
    · (repeat' first | exact trivial | exact rfl | refine And.intro ?_ ?_)
    · (repeat' first | exact trivial | exact rfl | refine And.intro ?_ ?_)
    intro v hv _
    subst hv
    intro _
    refine call_pure [(0, some 0), (1, some 1)] (rRaw_ok q0 k (List.replicate 2001 97) h1 h2 (by simp)) rfl rfl rfl ?_ ?_ ?_
    · (repeat' first | exact trivial | exact rfl | refine And.intro ?_ ?_)
    · (repeat' first | exact trivial | exact rfl | refine And.intro ?_ ?_)
    intro v hv _
    subst hv
    intro _; refine ⟨fun g => ?_, fun g => ?_⟩
    rotate_left
    · exact absurd (show (heI q0 k (List.replicate 2001 97) == heI q0 k (List.replicate 2001 97)) = false from g) bqi
    intro _; refine ⟨fun g => ?_, fun g => ?_⟩
    rotate_left
    · exact absurd (show (rwI q0 k (List.replicate 2001 97) == rwI q0 k (List.replicate 2001 97)) = false from g) bqi
    intro _
    refine call_pure [(0, some 0), (1, some 1)] (Width_ok q0 k (List.replicate 2001 97) c hw h1 h2 (by simp)) rfl rfl rfl ?_ ?_ ?_
    · (repeat' first | exact trivial | exact rfl | refine And.intro ?_ ?_)
    · (repeat' first | exact trivial | exact rfl | refine And.intro ?_ ?_)
    intro v hv _
    subst hv
    intro _
    refine call_pure [(0, some 0), (1, some 1)] (rWidth_ok q0 k (List.replicate 2001 97) c h1 h2 (by simp)) rfl rfl rfl ?_ ?_ ?_
    · (repeat' first | exact trivial | exact rfl | refine And.intro ?_ ?_)
    · (repeat' first | exact trivial | exact rfl | refine And.intro ?_ ?_)
    intro v hv _
    subst hv
    intro _; refine ⟨fun g => ?_, fun g => ?_⟩
    rotate_left
    · exact absurd (show (reI q0 k (List.replicate 2001 97) == reI q0 k (List.replicate 2001 97)) = false from g) bqi
    intro _; refine ⟨fun g => ?_, fun g => ?_⟩
    rotate_left
    · exact absurd (show (wwI q0 k (List.replicate 2001 97) c == wwI q0 k (List.replicate 2001 97) c) = false from g) bqi
    intro _
    exact beq_self_eq_true (weI q0 k (List.replicate 2001 97) c)
  intro _
  refine call_pure [(0, some 0), (1, some 1)] (Has_ok q0 k s hw h1 h2 hl) rfl rfl rfl ?_ ?_ ?_
  · (repeat' first | exact trivial | exact rfl | refine And.intro ?_ ?_)
  · (repeat' first | exact trivial | exact rfl | refine And.intro ?_ ?_)
  intro v hv _
  subst hv
  intro _
  refine call_pure [(0, some 0), (1, some 1)] (rHas_ok q0 k s h1 h2 hl) rfl rfl rfl ?_ ?_ ?_
  · (repeat' first | exact trivial | exact rfl | refine And.intro ?_ ?_)
  · (repeat' first | exact trivial | exact rfl | refine And.intro ?_ ?_)
  intro v hv _
  subst hv
  intro _
  refine Or.inl ?_
  intro _
  refine call_pure [(0, some 0), (1, some 1)] (Valid_ok q0 k hw h1 h2) rfl rfl rfl ?_ ?_ ?_
  · (repeat' first | exact trivial | exact rfl | refine And.intro ?_ ?_)
  · (repeat' first | exact trivial | exact rfl | refine And.intro ?_ ?_)
  intro v hv _
  subst hv
  intro _
  refine Or.inl ?_
  intro _
  refine call_pure [(0, some 0), (1, some 1)] (rVal_ok q0 k h1 h2) rfl rfl rfl ?_ ?_ ?_
  · (repeat' first | exact trivial | exact rfl | refine And.intro ?_ ?_)
  · (repeat' first | exact trivial | exact rfl | refine And.intro ?_ ?_)
  intro v hv _
  subst hv
  intro _; refine ⟨fun g => ?_, fun g => ?_⟩
  rotate_left
  · exact absurd (show (decide (VF q0 k) == decide (VF q0 k)) = false from g) bq
  intro _; refine ⟨fun g => ?_, fun g => ?_⟩
  rotate_left
  · exact absurd (show (decide (HOK q0 k s) == decide (HOK q0 k s)) = false from g) bq
  intro _; refine ⟨by kernel_rfl, ?_⟩
  intro _
  refine call_pure [(0, some 0), (1, some 1)] (Raw_ok q0 k s hw h1 h2 hl) rfl rfl rfl ?_ ?_ ?_
  · (repeat' first | exact trivial | exact rfl | refine And.intro ?_ ?_)
  · (repeat' first | exact trivial | exact rfl | refine And.intro ?_ ?_)
  intro v hv _
  subst hv
  intro _
  refine call_pure [(0, some 0), (1, some 1)] (rRaw_ok q0 k s h1 h2 hl) rfl rfl rfl ?_ ?_ ?_
  · (repeat' first | exact trivial | exact rfl | refine And.intro ?_ ?_)
  · (repeat' first | exact trivial | exact rfl | refine And.intro ?_ ?_)
  intro v hv _
  subst hv
  intro _; refine ⟨fun g => ?_, fun g => ?_⟩
  rotate_left
  · exact absurd (show (heI q0 k s == heI q0 k s) = false from g) bqi
  intro _; refine ⟨fun g => ?_, fun g => ?_⟩
  rotate_left
  · exact absurd (show (rwI q0 k s == rwI q0 k s) = false from g) bqi
  intro _
  refine call_pure [(0, some 0), (1, some 1)] (Width_ok q0 k s c hw h1 h2 hl) rfl rfl rfl ?_ ?_ ?_
  · (repeat' first | exact trivial | exact rfl | refine And.intro ?_ ?_)
  · (repeat' first | exact trivial | exact rfl | refine And.intro ?_ ?_)
  intro v hv _
  subst hv
  intro _
  refine call_pure [(0, some 0), (1, some 1)] (rWidth_ok q0 k s c h1 h2 hl) rfl rfl rfl ?_ ?_ ?_
  · (repeat' first | exact trivial | exact rfl | refine And.intro ?_ ?_)
  · (repeat' first | exact trivial | exact rfl | refine And.intro ?_ ?_)
  intro v hv _
  subst hv
  intro _; refine ⟨fun g => ?_, fun g => ?_⟩
  rotate_left
  · exact absurd (show (reI q0 k s == reI q0 k s) = false from g) bqi
  intro _; refine ⟨fun g => ?_, fun g => ?_⟩
  rotate_left
  · exact absurd (show (wwI q0 k s c == wwI q0 k s c) = false from g) bqi
  intro _
  exact beq_self_eq_true (weI q0 k s c)
theorem by_l {x y : List UInt8} {i : Nat} (h : i < x.length) : by' (x ++ y) i = by' x i := by
  unfold by'; rw [List.getD_eq_getElem?_getD, List.getD_eq_getElem?_getD, List.getElem?_append_left h]
theorem by_r {x y : List UInt8} {i : Nat} : by' (x ++ y) (x.length + i) = by' y i := by
  unfold by'; rw [List.getD_eq_getElem?_getD, List.getD_eq_getElem?_getD, List.getElem?_append_right (by omega), Nat.add_sub_cancel_left]
theorem sA_l (g : LD) (x y : List UInt8) : ∀ n, n ≤ x.length → sA g (x ++ y) n = sA g x n
  | 0, _ => rfl
  | n + 1, h => by simp only [sA]; rw [sA_l g x y n (by omega), by_l (by omega)]
theorem sA_r (g : LD) (x y : List UInt8) : ∀ n, n ≤ y.length → sA g (x ++ y) (x.length + n) = sA g x x.length + sA g y n
  | 0, _ => by simp only [sA, Nat.add_zero, Int.add_zero]; exact sA_l g x y _ (Nat.le_refl _)
  | n + 1, h => by
    rw [← Nat.add_assoc]; simp only [sA]; rw [sA_r g x y n (by omega), by_r]; omega
theorem sK_l (k : LD) (x y : List UInt8) : ∀ n, n ≤ x.length → sK k (x ++ y) n = sK k x n
  | 0, _ => rfl
  | n + 1, h => by
    simp only [sK]; rw [sK_l k x y n (by omega), by_l (by omega)]
    split
    · rw [by_l (by omega)]
    · rfl
def jn (k : LD) (x y : List UInt8) : Int := if 0 < x.length ∧ 0 < y.length then bK k (by' x (x.length - 1)) (by' y 0) else 0
theorem sK_r (k : LD) (x y : List UInt8) : ∀ n, n ≤ y.length → sK k (x ++ y) (x.length + n) = sK k x x.length + sK k y n + (if 0 < n then jn k x y else 0)
  | 0, _ => by simp only [sK, Nat.add_zero, Int.add_zero]; rw [sK_l k x y _ (Nat.le_refl _)]; simp
  | n + 1, h => by
    rw [← Nat.add_assoc]; simp only [sK]; rw [sK_r k x y n (by omega), by_r]
    rcases Nat.eq_zero_or_pos n with e | e
    · subst e
      have hy : 0 < y.length := by omega
      by_cases q : 0 < x.length
      · have hx : by' (x ++ y) (x.length - 1) = by' x (x.length - 1) := by_l (by omega)
        simp [q, hy, hx, sK, jn]
      · have q0 : x.length = 0 := by omega
        simp [q0, sK, jn]
    · have hx : by' (x ++ y) (x.length + n - 1) = by' y (n - 1) := by rw [show x.length + n - 1 = x.length + (n - 1) by omega, by_r]
      simp only [if_pos (show 0 < x.length + n by omega), if_pos e, if_pos (Nat.succ_pos n), hx]; omega
theorem RW_app (g k : LD) (x y : List UInt8) : RW g k (x ++ y) = RW g k x + RW g k y + jn k x y := by
  unfold RW
  rw [List.length_append, sA_r g x y _ (Nat.le_refl _), sK_r k x y _ (Nat.le_refl _)]
  split
  · omega
  · rename_i h
    have : jn k x y = 0 := by unfold jn; rw [if_neg (fun q => h q.2)]
    omega
theorem S_ge {g k : LD} (hg : GS g) (hk : KS g k) (u : List UInt8) : ∀ n : Nat, 0 < n → aG g (by' u (n - 1)) ≤ sA g u n + sK k u n
  | 0, h => by omega
  | n + 1, _ => by
    have hb := bK_bd hg hk (by' u (n - 1)) (by' u n)
    have ha := aG_bd hg (by' u n)
    simp only [sA, sK, Nat.add_sub_cancel]
    rcases Nat.eq_zero_or_pos n with e | e
    · subst e; rw [if_neg (by omega)]; simp [sA, sK]
    · have := S_ge hg hk u n e
      rw [if_pos e]; omega
theorem RW_nn {g k : LD} (hg : GS g) (hk : KS g k) (u : List UInt8) : 0 ≤ RW g k u := by
  unfold RW
  rcases Nat.eq_zero_or_pos u.length with e | e
  · rw [e]; simp [sA, sK]
  · have h1 := S_ge hg hk u _ e
    have h2 := aG_bd hg (by' u (u.length - 1))
    omega
theorem RW_jn {g k : LD} (hg : GS g) (hk : KS g k) (x y : List UInt8) : 0 ≤ RW g k x + jn k x y := by
  have h0 := RW_nn hg hk x
  unfold jn
  split
  · rename_i h
    have h1 := S_ge hg hk x _ h.1
    have h2 := bK_bd hg hk (by' x (x.length - 1)) (by' y 0)
    unfold RW; omega
  · omega
theorem jn_bd {g k : LD} (hg : GS g) (hk : KS g k) (x y : List UInt8) : -1000 ≤ jn k x y ∧ jn k x y ≤ 1000 := by
  have h2 := bK_bd hg hk (by' x (x.length - 1)) (by' y 0)
  unfold jn; split <;> omega
theorem VA_mem {s : List UInt8} : VA s ↔ s.length ≤ 2000 ∧ ∀ b ∈ s, cl (b.toNat : Int) ≠ 0 := by
  unfold VA
  refine ⟨fun h => ⟨h.1, fun b hb => ?_⟩, fun h => ⟨h.1, fun i hi => h.2 _ (by_mem hi)⟩⟩
  obtain ⟨j, hj, rfl⟩ := List.getElem_of_mem hb
  have := h.2 j hj
  unfold by' at this
  rwa [show s.getD j 0 = s[j] by rw [List.getD_eq_getElem?_getD, List.getElem?_eq_getElem hj]; rfl] at this
theorem sh_app (s t : List UInt8) : sh (s ++ t) = sh s ++ sh t := List.filter_append ..
theorem HOK_app {g k : LD} {s t : List UInt8} (hs : HOK g k s) (ht : HOK g k t) (hl : s.length + t.length ≤ 2000) : HOK g k (s ++ t) := by
  refine ⟨hs.1, VA_mem.2 ⟨by simpa using hl, fun b hb => ?_⟩, fun i hi => ?_⟩
  · rcases List.mem_append.1 hb with h | h
    · exact (VA_mem.1 hs.2.1).2 b h
    · exact (VA_mem.1 ht.2.1).2 b h
  · rw [sh_app] at hi ⊢
    rcases Nat.lt_or_ge i (sh s).length with q | q
    · rw [by_l q]; exact hs.2.2 i q
    · rw [List.length_append] at hi
      have e : i = (sh s).length + (i - (sh s).length) := by omega
      rw [e, by_r]; exact ht.2.2 _ (by omega)
theorem rw_of {g k : LD} {s : List UInt8} (h : HOK g k s) : rwI g k s = RW g k (sh s) ∧ reI g k s = 0 := by
  unfold rwI reI
  rw [if_pos h, if_pos (show VF g k ∧ VA s from ⟨h.1, h.2.1⟩), if_pos h]
  exact ⟨rfl, rfl⟩
theorem ne0 : ¬ ((0 : Int) != 0) = true := by decide
set_option maxHeartbeats 1000000 in
theorem law4 (q0 k : LD) (s t : List UInt8) (hw : WG q0) (h1 : q0.length ≤ 9223372036854775807) (h2 : k.length ≤ 9223372036854775807) (hl : s.length ≤ 9223372036854775807) (hl2 : t.length ≤ 9223372036854775807) : SemF Try.prog 4 [.agg [.slc 0 2 0 q0.length, .slc 1 3 0 k.length], .str s, .str t] ⟨2, 2, [(0, .arr [.int .u8, .int .i64] .ro (.recs q0)), (1, .arr [.int .u8, .int .u8, .int .i64] .ro (.recs k))]⟩ (fun v _ => IsTrue v) := by
  refine enter tt_ok Try.func4 (nt := 101) (cd := body Try.f4) rfl rfl rfl rfl ?_
  intro _
  refine head_ok rfl Try.func8 (cd := body Try.f8) rfl ?_
  intro _
  refine call_pure [(0, some 0), (1, some 1)] (usable_ok q0 k s hl) rfl rfl rfl ?_ ?_ ?_
  · (repeat' first | exact trivial | exact rfl | refine And.intro ?_ ?_)
  · (repeat' first | exact trivial | exact rfl | refine And.intro ?_ ?_)
  intro v hv _
  subst hv
  intro _; refine ⟨fun g => ?_, fun g => ?_⟩
  · intro _
    rfl
  have g : (!decide (US q0 k s)) = false := g
  rw [Bool.not_eq_false'] at g
  obtain ⟨_, hs3, hHs⟩ := of_decide_eq_true g
  intro _
  refine call_pure [(0, some 0), (1, some 1)] (usable_ok q0 k t hl2) rfl rfl rfl ?_ ?_ ?_
  · (repeat' first | exact trivial | exact rfl | refine And.intro ?_ ?_)
  · (repeat' first | exact trivial | exact rfl | refine And.intro ?_ ?_)
  intro v hv _
  subst hv
  intro _; refine ⟨fun g => ?_, fun g => ?_⟩
  · intro _
    rfl
  have g : (!decide (US q0 k t)) = false := g
  rw [Bool.not_eq_false'] at g
  obtain ⟨_, ht3, hHt⟩ := of_decide_eq_true g
  have hHa := HOK_app hHs hHt (by omega)
  have hgs := hHs.1.2.2.1
  have hks := hHs.1.2.2.2
  obtain ⟨r1, e1⟩ := rw_of hHs
  obtain ⟨r2, e2⟩ := rw_of hHt
  obtain ⟨r3, e3⟩ := rw_of hHa
  have b1 := RW_bd hHs
  have b2 := RW_bd hHt
  have bj := jn_bd hgs hks (sh s) (sh t)
  have nn1 := RW_nn hgs hks (sh s)
  have nn2 := RW_jn hgs hks (sh s) (sh t)
  have ea := RW_app q0 k (sh s) (sh t)
  rw [← sh_app] at ea
  have n1 := nums_len (sh s)
  have n2 := nums_len (sh t)
  have s1 := (VA_sh hHs.2.1).1
  have s2 := (VA_sh hHt.2.1).1
  intro _
  refine call_pure [(0, some 0), (1, some 1)] (Raw_ok q0 k s hw h1 h2 hl) rfl rfl rfl ?_ ?_ ?_
  · (repeat' first | exact trivial | exact rfl | refine And.intro ?_ ?_)
  · (repeat' first | exact trivial | exact rfl | refine And.intro ?_ ?_)
  intro v hv _
  subst hv
  intro _
  refine call_pure [(0, some 0), (1, some 1)] (Raw_ok q0 k t hw h1 h2 hl2) rfl rfl rfl ?_ ?_ ?_
  · (repeat' first | exact trivial | exact rfl | refine And.intro ?_ ?_)
  · (repeat' first | exact trivial | exact rfl | refine And.intro ?_ ?_)
  intro v hv _
  subst hv
  intro _; refine ⟨by omega, ?_⟩
  intro _
  refine call_pure [(0, some 0), (1, some 1)] (Raw_ok q0 k (s ++ t) hw h1 h2 (by rw [List.length_append]; omega)) rfl rfl rfl ?_ ?_ ?_
  · (repeat' first | exact trivial | exact rfl | refine And.intro ?_ ?_)
  · (repeat' first | exact trivial | exact rfl | refine And.intro ?_ ?_)
  intro v hv _
  subst hv
  intro _; refine ⟨fun g => ?_, fun g => ?_⟩
  · exact absurd (show (reI q0 k s != 0) = true from g) (by rw [e1]; exact ne0)
  intro _; refine ⟨fun g => ?_, fun g => ?_⟩
  · exact absurd (show (reI q0 k t != 0) = true from g) (by rw [e2]; exact ne0)
  intro _; refine ⟨fun g => ?_, fun g => ?_⟩
  · exact absurd (show (reI q0 k (s ++ t) != 0) = true from g) (by rw [e3]; exact ne0)
  intro _
  refine call_new [] (rSh_ok s (by omega)) rfl rfl rfl rfl ?_ ?_ ?_
  · (repeat' first | exact trivial | exact rfl | refine And.intro ?_ ?_)
  · (repeat' first | exact trivial | exact rfl | refine And.intro ?_ ?_)
  intro v h' hv
  obtain ⟨rfl, rfl⟩ := hv
  refine ⟨[(3, some 0)], 4, [(3, .arr [.int .u8] .grow (.ints (nums (sh s))))], .grw 3 (nums (sh s)).length, rfl, rfl, rfl, rfl, rfl, ?_, ?_, ?_⟩
  · (repeat' first | exact trivial | exact rfl | refine And.intro ?_ ?_)
  · (repeat' first | exact trivial | exact rfl | refine And.intro ?_ ?_)
  intro _
  refine call_new [] (rSh_ok t (by omega)) rfl rfl rfl rfl ?_ ?_ ?_
  · (repeat' first | exact trivial | exact rfl | refine And.intro ?_ ?_)
  · (repeat' first | exact trivial | exact rfl | refine And.intro ?_ ?_)
  intro v h' hv
  obtain ⟨rfl, rfl⟩ := hv
  refine ⟨[(4, some 0)], 5, [(4, .arr [.int .u8] .grow (.ints (nums (sh t))))], .grw 4 (nums (sh t)).length, rfl, rfl, rfl, rfl, rfl, ?_, ?_, ?_⟩
  · (repeat' first | exact trivial | exact rfl | refine And.intro ?_ ?_)
  · (repeat' first | exact trivial | exact rfl | refine And.intro ?_ ?_)
  intro _; refine ⟨fun g => ?_, fun g => ?_⟩
  rotate_left
  · have g0 := of_decide_eq_false (show decide (((nums (sh s)).length : Int) > 0) = false from g)
    have ej : (0 : Int) = jn k (sh s) (sh t) := by unfold jn; rw [if_neg (fun q => by omega)]
    intro _; refine ⟨fun g => ?_, fun g => ?_⟩
    rotate_left
    · exfalso
      have g := beq_eq_false_iff_ne.1 (show (rwI q0 k (s ++ t) == IntKind.i64.wrap (IntKind.i64.wrap (rwI q0 k s + rwI q0 k t) + 0)) = false from g)
      apply g
      rw [ej, r1, r2, r3, wrapS (RW q0 k (sh s) + RW q0 k (sh t)) ⟨by omega, by omega⟩, wrapS _ ⟨by omega, by omega⟩]
      omega
    intro _; refine ⟨fun g => ?_, fun g => ?_⟩
    rotate_left
    · exfalso
      have g := of_decide_eq_false (show decide (rwI q0 k (s ++ t) ≥ rwI q0 k t) = false from g)
      rw [r2, r3] at g
      omega
    intro _
    show decide (rwI q0 k s ≥ 0) = true
    rw [r1]
    exact decide_eq_true nn1
  have g0 := of_decide_eq_true (show decide (((nums (sh s)).length : Int) > 0) = true from g)
  intro _; refine ⟨fun g => ?_, fun g => ?_⟩
  rotate_left
  · have g1 := of_decide_eq_false (show decide (((nums (sh t)).length : Int) > 0) = false from g)
    have ej : (0 : Int) = jn k (sh s) (sh t) := by unfold jn; rw [if_neg (fun q => by omega)]
    intro _; refine ⟨fun g => ?_, fun g => ?_⟩
    rotate_left
    · exfalso
      have g := beq_eq_false_iff_ne.1 (show (rwI q0 k (s ++ t) == IntKind.i64.wrap (IntKind.i64.wrap (rwI q0 k s + rwI q0 k t) + 0)) = false from g)
      apply g
      rw [ej, r1, r2, r3, wrapS (RW q0 k (sh s) + RW q0 k (sh t)) ⟨by omega, by omega⟩, wrapS _ ⟨by omega, by omega⟩]
      omega
    intro _; refine ⟨fun g => ?_, fun g => ?_⟩
    rotate_left
    · exfalso
      have g := of_decide_eq_false (show decide (rwI q0 k (s ++ t) ≥ rwI q0 k t) = false from g)
      rw [r2, r3] at g
      omega
    intro _
    show decide (rwI q0 k s ≥ 0) = true
    rw [r1]
    exact decide_eq_true nn1
  have g1 := of_decide_eq_true (show decide (((nums (sh t)).length : Int) > 0) = true from g)
  have ew : IntKind.i64.wrap (((nums (sh s)).length : Int) - 1) = (((sh s).length - 1 : Nat) : Int) := by rw [wrapS _ ⟨by omega, by omega⟩]; omega
  intro _; refine ⟨by rw [ew]; omega, ?_⟩
  intro _; refine ⟨show (IntKind.i64.wrap (((nums (sh s)).length : Int) - 1)).toNat < (nums (sh s)).length by rw [ew]; omega, ?_⟩
  intro _; refine ⟨by omega, ?_⟩
  intro _; refine ⟨show (0 : Int).toNat < (nums (sh t)).length by omega, ?_⟩
  intro _
  refine Or.inl ?_
  intro _
  refine call_pure [(0, some 0), (1, some 1)] (rKern_ok q0 k ((nums (sh s)).getD (IntKind.i64.wrap (((nums (sh s)).length : Int) - 1)).toNat 0) ((nums (sh t)).getD (0 : Int).toNat 0) (by omega)) rfl rfl rfl ?_ ?_ ?_
  · (repeat' first | exact trivial | exact rfl | refine And.intro ?_ ?_)
  · (repeat' first | exact trivial | exact rfl | refine And.intro ?_ ?_)
  intro v hv _
  subst hv
  have ej : bK k ((nums (sh s)).getD (IntKind.i64.wrap (((nums (sh s)).length : Int) - 1)).toNat 0) ((nums (sh t)).getD (0 : Int).toNat 0) = jn k (sh s) (sh t) := by
    rw [nums_get, nums_get, ew]
    unfold jn
    rw [if_pos ⟨by omega, by omega⟩]; rfl
  intro _
  refine ⟨by kernel_rfl, ?_⟩
  intro _; refine ⟨fun g => ?_, fun g => ?_⟩
  rotate_left
  · exfalso
    have g := beq_eq_false_iff_ne.1 (show (rwI q0 k (s ++ t) == IntKind.i64.wrap (IntKind.i64.wrap (rwI q0 k s + rwI q0 k t) + bK k ((nums (sh s)).getD (IntKind.i64.wrap (((nums (sh s)).length : Int) - 1)).toNat 0) ((nums (sh t)).getD (0 : Int).toNat 0))) = false from g)
    apply g
    rw [ej, r1, r2, r3, wrapS (RW q0 k (sh s) + RW q0 k (sh t)) ⟨by omega, by omega⟩, wrapS _ ⟨by omega, by omega⟩]
    omega
  intro _; refine ⟨fun g => ?_, fun g => ?_⟩
  rotate_left
  · exfalso
    have g := of_decide_eq_false (show decide (rwI q0 k (s ++ t) ≥ rwI q0 k t) = false from g)
    rw [r2, r3] at g
    omega
  intro _
  show decide (rwI q0 k s ≥ 0) = true
  rw [r1]
  exact decide_eq_true nn1
set_option maxRecDepth 100000
theorem mod_nat {a : Int} {n : Nat} (ha : 0 ≤ a) (hn : 0 < n) : ∃ i : Nat, i < n ∧ a.tmod (n : Int) = i := by
  refine ⟨(a.tmod n).toNat, ?_, ?_⟩
  · have h1 := Int.tmod_nonneg (n : Int) ha
    have h2 := Int.tmod_lt_of_pos a (show (0 : Int) < n by omega)
    omega
  · have h1 := Int.tmod_nonneg (n : Int) ha
    omega
theorem sh_in (s : List UInt8) (i : Nat) : sh (s.take i ++ [126] ++ s.drop i) = sh s := by
  rw [sh_app, sh_app]
  have : sh [126] = [] := rfl
  rw [this, List.append_nil, ← sh_app, List.take_append_drop]
theorem VA_in {s : List UInt8} {i : Nat} (h : VA s) (hl : s.length ≤ 300) : VA (s.take i ++ [126] ++ s.drop i) := by
  rw [VA_mem] at h ⊢
  refine ⟨by simp; omega, fun b hb => ?_⟩
  rcases List.mem_append.1 hb with hb | hb
  · rcases List.mem_append.1 hb with hb | hb
    · exact h.2 b (List.mem_of_mem_take hb)
    · have : b = 126 := by simpa using hb
      subst this; decide
  · exact h.2 b (List.mem_of_mem_drop hb)
theorem HOK_in {g k : LD} {s : List UInt8} {i : Nat} (h : VA s) (hl : s.length ≤ 300) : HOK g k (s.take i ++ [126] ++ s.drop i) ↔ HOK g k s := by
  unfold HOK
  rw [sh_in]
  exact ⟨fun q => ⟨q.1, h, q.2.2⟩, fun q => ⟨q.1, VA_in h hl, q.2.2⟩⟩
theorem ww_of {g k : LD} {s t : List UInt8} {c : Int} (hV : VF g k) (h1 : VA s) (h2 : VA t) (hs : sh t = sh s) (hi : HOK g k t ↔ HOK g k s) : wwI g k t c = wwI g k s c ∧ weI g k t c = weI g k s c := by
  unfold wwI weI reI
  rw [hs]
  refine ⟨?_, ?_⟩
  · by_cases q : HOK g k s
    · by_cases q2 : CS c
      · rw [if_pos ⟨q2, hi.2 q⟩, if_pos ⟨q2, q⟩]
      · rw [if_neg (fun w => q2 w.1), if_neg (fun w => q2 w.1)]
    · rw [if_neg (fun w => q (hi.1 w.2)), if_neg (fun w => q w.2)]
  · rw [if_pos (show VF g k ∧ VA t from ⟨hV, h2⟩), if_pos (show VF g k ∧ VA s from ⟨hV, h1⟩)]
    by_cases q : HOK g k s
    · rw [if_pos (hi.2 q), if_pos q]
    · rw [if_neg (fun w => q (hi.1 w)), if_neg q]
set_option maxHeartbeats 1000000 in
theorem law5 (q0 k : LD) (s : List UInt8) (a c : Int) (hw : WG q0) (h1 : q0.length ≤ 9223372036854775807) (h2 : k.length ≤ 9223372036854775807) (hl : s.length ≤ 9223372036854775807) (ha : 0 ≤ a ∧ a ≤ 65535) (hc : 0 ≤ c ∧ c ≤ 255) : SemF Try.prog 5 [.agg [.slc 0 2 0 q0.length, .slc 1 3 0 k.length], .str s, .int .u16 a, .int .u8 c] ⟨2, 2, [(0, .arr [.int .u8, .int .i64] .ro (.recs q0)), (1, .arr [.int .u8, .int .u8, .int .i64] .ro (.recs k))]⟩ (fun v _ => IsTrue v) := by
  refine enter tt_ok Try.func5 (nt := 115) (cd := body Try.f5) rfl rfl rfl rfl ?_
  intro _
  refine head_ok rfl Try.func8 (cd := body Try.f8) rfl ?_
  intro _
  refine call_pure [(0, some 0), (1, some 1)] (few_ok q0 k) rfl rfl rfl ?_ ?_ ?_
  · (repeat' first | exact trivial | exact rfl | refine And.intro ?_ ?_)
  · (repeat' first | exact trivial | exact rfl | refine And.intro ?_ ?_)
  intro v hv _
  subst hv
  intro _; refine ⟨fun g => ?_, fun g => ?_⟩
  · intro _
    rfl
  intro _
  refine call_pure [(0, some 0), (1, some 1)] (rVal_ok q0 k h1 h2) rfl rfl rfl ?_ ?_ ?_
  · (repeat' first | exact trivial | exact rfl | refine And.intro ?_ ?_)
  · (repeat' first | exact trivial | exact rfl | refine And.intro ?_ ?_)
  intro v hv _
  subst hv
  intro _; refine ⟨fun g => ?_, fun g => ?_⟩
  · intro _
    rfl
  have g : (!decide (VF q0 k)) = false := g
  rw [Bool.not_eq_false'] at g
  have hVF := of_decide_eq_true g
  intro _; refine ⟨fun g => ?_, fun g => ?_⟩
  · intro _
    rfl
  have g3 := of_decide_eq_false (show decide ((s.length : Int) > 300) = false from g)
  intro _
  refine call_pure [] (rvalid_ok s hl) rfl rfl rfl ?_ ?_ ?_
  · (repeat' first | exact trivial | exact rfl | refine And.intro ?_ ?_)
  · (repeat' first | exact trivial | exact rfl | refine And.intro ?_ ?_)
  intro v hv _
  subst hv
  intro _; refine ⟨fun g => ?_, fun g => ?_⟩
  · intro _
    rfl
  have g : (!decide (VA s)) = false := g
  rw [Bool.not_eq_false'] at g
  have hVA := of_decide_eq_true g
  have e1 : IntKind.i64.wrap ((s.length : Int) + 1) = ((s.length + 1 : Nat) : Int) := wrap_nat _ (by omega)
  have e2 : IntKind.i64.wrap a = a := wrapS a ⟨by omega, by omega⟩
  have e3 : IntKind.i64.wrap c = c := wrapS c ⟨by omega, by omega⟩
  obtain ⟨i, hi, eI⟩ := mod_nat (a := a) (n := s.length + 1) ha.1 (by omega)
  have eI : ((IntKind.i64.wrap a).tmod (IntKind.i64.wrap ((s.length : Int) + 1))) = (i : Int) := by rw [e1, e2]; exact eI
  intro _; refine ⟨by rw [e1]; omega, ?_⟩
  intro _; refine ⟨by decide, ?_⟩
  have eT : ((((s.drop (0 : Int).toNat).take (((IntKind.i64.wrap a).tmod (IntKind.i64.wrap ((s.length : Int) + 1))).toNat - (0 : Int).toNat)) ++ [126]) ++ ((s.drop ((IntKind.i64.wrap a).tmod (IntKind.i64.wrap ((s.length : Int) + 1))).toNat).take ((s.length : Int).toNat - ((IntKind.i64.wrap a).tmod (IntKind.i64.wrap ((s.length : Int) + 1))).toNat))) = s.take i ++ [126] ++ s.drop i := by
    rw [eI]
    simp only [Int.toNat_natCast, Int.toNat_zero, List.drop_zero, Nat.sub_zero]
    rw [List.take_of_length_le (l := s.drop i) (by simp)]
  have hT : (s.take i ++ [126] ++ s.drop i).length ≤ 9223372036854775807 := by simp; omega
  intro _; refine ⟨show 0 ≤ (0 : Int) ∧ (0 : Int) ≤ ((IntKind.i64.wrap a).tmod (IntKind.i64.wrap ((s.length : Int) + 1))) ∧ ((IntKind.i64.wrap a).tmod (IntKind.i64.wrap ((s.length : Int) + 1))) ≤ (s.length : Int) by rw [eI]; omega, ?_⟩
  intro _; refine ⟨by rw [eI]; simp; omega, ?_⟩
  intro _; refine ⟨show 0 ≤ ((IntKind.i64.wrap a).tmod (IntKind.i64.wrap ((s.length : Int) + 1))) ∧ ((IntKind.i64.wrap a).tmod (IntKind.i64.wrap ((s.length : Int) + 1))) ≤ (s.length : Int) ∧ (s.length : Int) ≤ (s.length : Int) by rw [eI]; omega, ?_⟩
  intro _; refine ⟨by rw [eI]; simp; omega, ?_⟩
  intro _; refine ⟨by kernel_rfl, ?_⟩
  have hTl : ((((s.drop (0 : Int).toNat).take (((IntKind.i64.wrap a).tmod (IntKind.i64.wrap ((s.length : Int) + 1))).toNat - (0 : Int).toNat)) ++ [126]) ++ ((s.drop ((IntKind.i64.wrap a).tmod (IntKind.i64.wrap ((s.length : Int) + 1))).toNat).take ((s.length : Int).toNat - ((IntKind.i64.wrap a).tmod (IntKind.i64.wrap ((s.length : Int) + 1))).toNat))).length ≤ 9223372036854775807 := by rw [eT]; exact hT
  intro _
  refine call_pure [(0, some 0), (1, some 1)] (Has_ok q0 k s hw h1 h2 hl) rfl rfl rfl ?_ ?_ ?_
  · (repeat' first | exact trivial | exact rfl | refine And.intro ?_ ?_)
  · (repeat' first | exact trivial | exact rfl | refine And.intro ?_ ?_)
  intro v hv _
  subst hv
  intro _
  refine call_pure [(0, some 0), (1, some 1)] (Has_ok q0 k ((((s.drop (0 : Int).toNat).take (((IntKind.i64.wrap a).tmod (IntKind.i64.wrap ((s.length : Int) + 1))).toNat - (0 : Int).toNat)) ++ [126]) ++ ((s.drop ((IntKind.i64.wrap a).tmod (IntKind.i64.wrap ((s.length : Int) + 1))).toNat).take ((s.length : Int).toNat - ((IntKind.i64.wrap a).tmod (IntKind.i64.wrap ((s.length : Int) + 1))).toNat))) hw h1 h2 hTl) rfl rfl rfl ?_ ?_ ?_
  · (repeat' first | exact trivial | exact rfl | refine And.intro ?_ ?_)
  · (repeat' first | exact trivial | exact rfl | refine And.intro ?_ ?_)
  intro v hv _
  subst hv
  intro _
  refine call_pure [(0, some 0), (1, some 1)] (Width_ok q0 k s (IntKind.i64.wrap (50 + (IntKind.i64.wrap c).tmod 251)) hw h1 h2 hl) rfl rfl rfl ?_ ?_ ?_
  · (repeat' first | exact trivial | exact rfl | refine And.intro ?_ ?_)
  · (repeat' first | exact trivial | exact rfl | refine And.intro ?_ ?_)
  intro v hv _
  subst hv
  intro _
  refine call_pure [(0, some 0), (1, some 1)] (Width_ok q0 k ((((s.drop (0 : Int).toNat).take (((IntKind.i64.wrap a).tmod (IntKind.i64.wrap ((s.length : Int) + 1))).toNat - (0 : Int).toNat)) ++ [126]) ++ ((s.drop ((IntKind.i64.wrap a).tmod (IntKind.i64.wrap ((s.length : Int) + 1))).toNat).take ((s.length : Int).toNat - ((IntKind.i64.wrap a).tmod (IntKind.i64.wrap ((s.length : Int) + 1))).toNat))) (IntKind.i64.wrap (50 + (IntKind.i64.wrap c).tmod 251)) hw h1 h2 hTl) rfl rfl rfl ?_ ?_ ?_
  · (repeat' first | exact trivial | exact rfl | refine And.intro ?_ ?_)
  · (repeat' first | exact trivial | exact rfl | refine And.intro ?_ ?_)
  intro v hv _
  subst hv
  have hVT : VA ((((s.drop (0 : Int).toNat).take (((IntKind.i64.wrap a).tmod (IntKind.i64.wrap ((s.length : Int) + 1))).toNat - (0 : Int).toNat)) ++ [126]) ++ ((s.drop ((IntKind.i64.wrap a).tmod (IntKind.i64.wrap ((s.length : Int) + 1))).toNat).take ((s.length : Int).toNat - ((IntKind.i64.wrap a).tmod (IntKind.i64.wrap ((s.length : Int) + 1))).toNat))) := by rw [eT]; exact VA_in hVA (by omega)
  have hST : sh ((((s.drop (0 : Int).toNat).take (((IntKind.i64.wrap a).tmod (IntKind.i64.wrap ((s.length : Int) + 1))).toNat - (0 : Int).toNat)) ++ [126]) ++ ((s.drop ((IntKind.i64.wrap a).tmod (IntKind.i64.wrap ((s.length : Int) + 1))).toNat).take ((s.length : Int).toNat - ((IntKind.i64.wrap a).tmod (IntKind.i64.wrap ((s.length : Int) + 1))).toNat))) = sh s := by rw [eT]; exact sh_in s i
  have hHT : HOK q0 k ((((s.drop (0 : Int).toNat).take (((IntKind.i64.wrap a).tmod (IntKind.i64.wrap ((s.length : Int) + 1))).toNat - (0 : Int).toNat)) ++ [126]) ++ ((s.drop ((IntKind.i64.wrap a).tmod (IntKind.i64.wrap ((s.length : Int) + 1))).toNat).take ((s.length : Int).toNat - ((IntKind.i64.wrap a).tmod (IntKind.i64.wrap ((s.length : Int) + 1))).toNat))) ↔ HOK q0 k s := by rw [eT]; exact HOK_in hVA (by omega)
  obtain ⟨m, hm, eC⟩ := mod_nat (a := c) (n := 251) hc.1 (by omega)
  have eC0 : (IntKind.i64.wrap (50 + (IntKind.i64.wrap c).tmod 251)) = 50 + (m : Int) := by rw [e3, show (251 : Int) = ((251 : Nat) : Int) from rfl, eC, wrapS _ ⟨by omega, by omega⟩]
  have hCS : CS (IntKind.i64.wrap (50 + (IntKind.i64.wrap c).tmod 251)) := by rw [eC0]; exact ⟨by omega, by omega⟩
  obtain ⟨w1, w2⟩ := ww_of (c := (IntKind.i64.wrap (50 + (IntKind.i64.wrap c).tmod 251))) hVF hVA hVT hST hHT
  have he1 : heI q0 k s = 0 := by unfold heI; rw [if_pos ⟨hVF, hVA⟩]
  have he2 : heI q0 k ((((s.drop (0 : Int).toNat).take (((IntKind.i64.wrap a).tmod (IntKind.i64.wrap ((s.length : Int) + 1))).toNat - (0 : Int).toNat)) ++ [126]) ++ ((s.drop ((IntKind.i64.wrap a).tmod (IntKind.i64.wrap ((s.length : Int) + 1))).toNat).take ((s.length : Int).toNat - ((IntKind.i64.wrap a).tmod (IntKind.i64.wrap ((s.length : Int) + 1))).toNat))) = 0 := by unfold heI; rw [if_pos ⟨hVF, hVT⟩]
  intro _; refine ⟨fun g => ?_, fun g => ?_⟩
  rotate_left
  · exact absurd (show (heI q0 k s == 0) = false from g) (by rw [he1]; decide)
  intro _; refine ⟨fun g => ?_, fun g => ?_⟩
  rotate_left
  · exact absurd (show (heI q0 k ((((s.drop (0 : Int).toNat).take (((IntKind.i64.wrap a).tmod (IntKind.i64.wrap ((s.length : Int) + 1))).toNat - (0 : Int).toNat)) ++ [126]) ++ ((s.drop ((IntKind.i64.wrap a).tmod (IntKind.i64.wrap ((s.length : Int) + 1))).toNat).take ((s.length : Int).toNat - ((IntKind.i64.wrap a).tmod (IntKind.i64.wrap ((s.length : Int) + 1))).toNat))) == 0) = false from g) (by rw [he2]; decide)
  intro _; refine ⟨fun g => ?_, fun g => ?_⟩
  rotate_left
  · exact absurd (show (decide (HOK q0 k s) == decide (HOK q0 k ((((s.drop (0 : Int).toNat).take (((IntKind.i64.wrap a).tmod (IntKind.i64.wrap ((s.length : Int) + 1))).toNat - (0 : Int).toNat)) ++ [126]) ++ ((s.drop ((IntKind.i64.wrap a).tmod (IntKind.i64.wrap ((s.length : Int) + 1))).toNat).take ((s.length : Int).toNat - ((IntKind.i64.wrap a).tmod (IntKind.i64.wrap ((s.length : Int) + 1))).toNat))))) = false from g) (by rw [decide_eq_decide.2 hHT]; exact bq)
  intro _; refine ⟨fun g => ?_, fun g => ?_⟩
  rotate_left
  · exact absurd (show (weI q0 k s (IntKind.i64.wrap (50 + (IntKind.i64.wrap c).tmod 251)) == weI q0 k ((((s.drop (0 : Int).toNat).take (((IntKind.i64.wrap a).tmod (IntKind.i64.wrap ((s.length : Int) + 1))).toNat - (0 : Int).toNat)) ++ [126]) ++ ((s.drop ((IntKind.i64.wrap a).tmod (IntKind.i64.wrap ((s.length : Int) + 1))).toNat).take ((s.length : Int).toNat - ((IntKind.i64.wrap a).tmod (IntKind.i64.wrap ((s.length : Int) + 1))).toNat))) (IntKind.i64.wrap (50 + (IntKind.i64.wrap c).tmod 251))) = false from g) (by rw [w2]; exact bqi)
  intro _; refine ⟨fun g => ?_, fun g => ?_⟩
  rotate_left
  · exact absurd (show (wwI q0 k s (IntKind.i64.wrap (50 + (IntKind.i64.wrap c).tmod 251)) == wwI q0 k ((((s.drop (0 : Int).toNat).take (((IntKind.i64.wrap a).tmod (IntKind.i64.wrap ((s.length : Int) + 1))).toNat - (0 : Int).toNat)) ++ [126]) ++ ((s.drop ((IntKind.i64.wrap a).tmod (IntKind.i64.wrap ((s.length : Int) + 1))).toNat).take ((s.length : Int).toNat - ((IntKind.i64.wrap a).tmod (IntKind.i64.wrap ((s.length : Int) + 1))).toNat))) (IntKind.i64.wrap (50 + (IntKind.i64.wrap c).tmod 251))) = false from g) (by rw [w1]; exact bqi)
  intro _
  show ((weI q0 k s (IntKind.i64.wrap (50 + (IntKind.i64.wrap c).tmod 251)) == 0) == decide (HOK q0 k s)) = true
  unfold weI reI
  rw [if_pos hCS, if_pos (show VF q0 k ∧ VA s from ⟨hVF, hVA⟩)]
  by_cases q : HOK q0 k s
  · rw [if_pos q, decide_eq_true q]; rfl
  · rw [if_neg q, decide_eq_false q]; rfl
theorem SC_ge {r c : Int} (h : 0 ≤ r * c) : 0 ≤ SC r c ∧ r * c ≤ 100 * SC r c ∧ 100 * SC r c < r * c + 100 := by
  unfold SC
  rw [Int.tdiv_eq_ediv_of_nonneg (by omega)]
  omega
theorem sh_len' (s : List UInt8) : (sh s).length ≤ s.length := List.length_filter_le _ _
set_option maxHeartbeats 1000000 in
theorem law6 (q0 k : LD) (s : List UInt8) (a b : Int) (hw : WG q0) (h1 : q0.length ≤ 9223372036854775807) (h2 : k.length ≤ 9223372036854775807) (hl : s.length ≤ 9223372036854775807) (ha : 0 ≤ a ∧ a ≤ 65535) (hb : 0 ≤ b ∧ b ≤ 65535) : SemF Try.prog 6 [.agg [.slc 0 2 0 q0.length, .slc 1 3 0 k.length], .str s, .int .u16 a, .int .u16 b] ⟨2, 2, [(0, .arr [.int .u8, .int .i64] .ro (.recs q0)), (1, .arr [.int .u8, .int .u8, .int .i64] .ro (.recs k))]⟩ (fun v _ => IsTrue v) := by
  refine enter tt_ok Try.func6 (nt := 111) (cd := body Try.f6) rfl rfl rfl rfl ?_
  intro _
  refine head_ok rfl Try.func8 (cd := body Try.f8) rfl ?_
  intro _
  refine call_pure [(0, some 0), (1, some 1)] (usable_ok q0 k s hl) rfl rfl rfl ?_ ?_ ?_
  · (repeat' first | exact trivial | exact rfl | refine And.intro ?_ ?_)
  · (repeat' first | exact trivial | exact rfl | refine And.intro ?_ ?_)
  intro v hv _
  subst hv
  intro _; refine ⟨fun g => ?_, fun g => ?_⟩
  · intro _
    rfl
  have g : (!decide (US q0 k s)) = false := g
  rw [Bool.not_eq_false'] at g
  obtain ⟨_, hs3, hH⟩ := of_decide_eq_true g
  have hgs := hH.1.2.2.1
  have hks := hH.1.2.2.2
  obtain ⟨r1, e1⟩ := rw_of hH
  have nn := RW_nn hgs hks (sh s)
  have bA := sA_bd hgs (sh s) (sh s).length
  have bK' := sK_bd hgs hks (sh s) (sh s).length
  have hsl := sh_len' s
  have hR : RW q0 k (sh s) ≤ 600000 := by unfold RW; omega
  have ea : IntKind.i64.wrap a = a := wrapS a ⟨by omega, by omega⟩
  have eb : IntKind.i64.wrap b = b := wrapS b ⟨by omega, by omega⟩
  obtain ⟨m, hm, eC⟩ := mod_nat (a := a) (n := 251) ha.1 (by omega)
  have eK : (IntKind.i64.wrap (50 + (IntKind.i64.wrap a).tmod 251)) = 50 + (m : Int) := by rw [ea, show (251 : Int) = ((251 : Nat) : Int) from rfl, eC, wrapS _ ⟨by omega, by omega⟩]
  have hCK : CS (IntKind.i64.wrap (50 + (IntKind.i64.wrap a).tmod 251)) := by rw [eK]; exact ⟨by omega, by omega⟩
  have eL : (min 300 (IntKind.i64.wrap ((IntKind.i64.wrap (50 + (IntKind.i64.wrap a).tmod 251)) + IntKind.i64.wrap b))) = min 300 (50 + (m : Int) + b) := by rw [eK, eb, wrapS _ ⟨by omega, by omega⟩]
  have hCL : CS (min 300 (IntKind.i64.wrap ((IntKind.i64.wrap (50 + (IntKind.i64.wrap a).tmod 251)) + IntKind.i64.wrap b))) := by rw [eL]; exact ⟨by omega, by omega⟩
  have hKL : (IntKind.i64.wrap (50 + (IntKind.i64.wrap a).tmod 251)) ≤ (min 300 (IntKind.i64.wrap ((IntKind.i64.wrap (50 + (IntKind.i64.wrap a).tmod 251)) + IntKind.i64.wrap b))) := by rw [eL, eK]; omega
  have h100 : CS 100 := ⟨by omega, by omega⟩
  intro _; refine ⟨by decide, ?_⟩
  intro _
  refine call_pure [(0, some 0), (1, some 1)] (Raw_ok q0 k s hw h1 h2 hl) rfl rfl rfl ?_ ?_ ?_
  · (repeat' first | exact trivial | exact rfl | refine And.intro ?_ ?_)
  · (repeat' first | exact trivial | exact rfl | refine And.intro ?_ ?_)
  intro v hv _
  subst hv
  intro _
  refine call_pure [(0, some 0), (1, some 1)] (Width_ok q0 k s (IntKind.i64.wrap (50 + (IntKind.i64.wrap a).tmod 251)) hw h1 h2 hl) rfl rfl rfl ?_ ?_ ?_
  · (repeat' first | exact trivial | exact rfl | refine And.intro ?_ ?_)
  · (repeat' first | exact trivial | exact rfl | refine And.intro ?_ ?_)
  intro v hv _
  subst hv
  intro _
  refine call_pure [(0, some 0), (1, some 1)] (Width_ok q0 k s (min 300 (IntKind.i64.wrap ((IntKind.i64.wrap (50 + (IntKind.i64.wrap a).tmod 251)) + IntKind.i64.wrap b))) hw h1 h2 hl) rfl rfl rfl ?_ ?_ ?_
  · (repeat' first | exact trivial | exact rfl | refine And.intro ?_ ?_)
  · (repeat' first | exact trivial | exact rfl | refine And.intro ?_ ?_)
  intro v hv _
  subst hv
  intro _
  refine call_pure [(0, some 0), (1, some 1)] (Width_ok q0 k s 100 hw h1 h2 hl) rfl rfl rfl ?_ ?_ ?_
  · (repeat' first | exact trivial | exact rfl | refine And.intro ?_ ?_)
  · (repeat' first | exact trivial | exact rfl | refine And.intro ?_ ?_)
  intro v hv _
  subst hv
  have wk : ∀ c, CS c → wwI q0 k s c = SC (RW q0 k (sh s)) c ∧ weI q0 k s c = 0 := fun c hc => by
    unfold wwI weI; rw [if_pos ⟨hc, hH⟩, if_pos hc]; exact ⟨rfl, e1⟩
  obtain ⟨wk1, we1⟩ := wk _ hCK
  obtain ⟨wl1, wl2⟩ := wk _ hCL
  obtain ⟨wh1, wh2⟩ := wk _ h100
  have bR := RW_bd hH
  have bk := mul_bd bR hCK
  have bl := mul_bd bR hCL
  have nk : 0 ≤ RW q0 k (sh s) * (IntKind.i64.wrap (50 + (IntKind.i64.wrap a).tmod 251)) := Int.mul_nonneg nn (by have := hCK.1; omega)
  have nl : 0 ≤ RW q0 k (sh s) * (min 300 (IntKind.i64.wrap ((IntKind.i64.wrap (50 + (IntKind.i64.wrap a).tmod 251)) + IntKind.i64.wrap b))) := Int.mul_nonneg nn (by have := hCL.1; omega)
  have lkl : RW q0 k (sh s) * (IntKind.i64.wrap (50 + (IntKind.i64.wrap a).tmod 251)) ≤ RW q0 k (sh s) * (min 300 (IntKind.i64.wrap ((IntKind.i64.wrap (50 + (IntKind.i64.wrap a).tmod 251)) + IntKind.i64.wrap b))) := Int.mul_le_mul_of_nonneg_left hKL nn
  have uk : RW q0 k (sh s) * (IntKind.i64.wrap (50 + (IntKind.i64.wrap a).tmod 251)) ≤ 180000000 := by
    have h3 : RW q0 k (sh s) * (IntKind.i64.wrap (50 + (IntKind.i64.wrap a).tmod 251)) ≤ 600000 * (IntKind.i64.wrap (50 + (IntKind.i64.wrap a).tmod 251)) := Int.mul_le_mul_of_nonneg_right hR (by have := hCK.1; omega)
    have := hCK.2
    omega
  obtain ⟨k1, k2, k3⟩ := SC_ge nk
  obtain ⟨l1, l2, l3⟩ := SC_ge nl
  have q100 : SC (RW q0 k (sh s)) 100 = RW q0 k (sh s) := by
    obtain ⟨x1, x2, x3⟩ := SC_ge (r := RW q0 k (sh s)) (c := 100) (by omega)
    omega
  intro _; refine ⟨fun g => ?_, fun g => ?_⟩
  · exact absurd (show (reI q0 k s != 0) = true from g) (by rw [e1]; exact ne0)
  intro _; refine ⟨fun g => ?_, fun g => ?_⟩
  · exact absurd (show (weI q0 k s (IntKind.i64.wrap (50 + (IntKind.i64.wrap a).tmod 251)) != 0) = true from g) (by rw [we1]; exact ne0)
  intro _; refine ⟨fun g => ?_, fun g => ?_⟩
  · exact absurd (show (weI q0 k s (min 300 (IntKind.i64.wrap ((IntKind.i64.wrap (50 + (IntKind.i64.wrap a).tmod 251)) + IntKind.i64.wrap b))) != 0) = true from g) (by rw [wl2]; exact ne0)
  intro _; refine ⟨fun g => ?_, fun g => ?_⟩
  · exact absurd (show (weI q0 k s 100 != 0) = true from g) (by rw [wh2]; exact ne0)
  intro _; refine ⟨fun g => ?_, fun g => ?_⟩
  · exact absurd (show (wwI q0 k s 100 != rwI q0 k s) = true from g) (by rw [wh1, r1, q100]; simp)
  intro _; refine ⟨fun g => ?_, fun g => ?_⟩
  · have g := of_decide_eq_true (show decide (wwI q0 k s (IntKind.i64.wrap (50 + (IntKind.i64.wrap a).tmod 251)) < 0) = true from g)
    rw [wk1] at g; omega
  intro _; refine ⟨fun g => ?_, fun g => ?_⟩
  · have g := of_decide_eq_true (show decide (wwI q0 k s (IntKind.i64.wrap (50 + (IntKind.i64.wrap a).tmod 251)) > 10000000) = true from g)
    rw [wk1] at g; omega
  intro _; refine ⟨fun g => ?_, fun g => ?_⟩
  rotate_left
  · have g := of_decide_eq_false (show decide (IntKind.i64.wrap (100 * wwI q0 k s (IntKind.i64.wrap (50 + (IntKind.i64.wrap a).tmod 251))) ≥ IntKind.i64.wrap (rwI q0 k s * (IntKind.i64.wrap (50 + (IntKind.i64.wrap a).tmod 251)))) = false from g)
    rw [wk1, r1, wrapS (RW q0 k (sh s) * (IntKind.i64.wrap (50 + (IntKind.i64.wrap a).tmod 251))) ⟨by omega, by omega⟩, wrapS (100 * SC (RW q0 k (sh s)) (IntKind.i64.wrap (50 + (IntKind.i64.wrap a).tmod 251))) ⟨by omega, by omega⟩] at g
    omega
  intro _; refine ⟨fun g => ?_, fun g => ?_⟩
  rotate_left
  · have g := of_decide_eq_false (show decide (IntKind.i64.wrap (100 * wwI q0 k s (IntKind.i64.wrap (50 + (IntKind.i64.wrap a).tmod 251))) < IntKind.i64.wrap (IntKind.i64.wrap (rwI q0 k s * (IntKind.i64.wrap (50 + (IntKind.i64.wrap a).tmod 251))) + 100)) = false from g)
    rw [wk1, r1, wrapS (RW q0 k (sh s) * (IntKind.i64.wrap (50 + (IntKind.i64.wrap a).tmod 251))) ⟨by omega, by omega⟩, wrapS (100 * SC (RW q0 k (sh s)) (IntKind.i64.wrap (50 + (IntKind.i64.wrap a).tmod 251))) ⟨by omega, by omega⟩, wrapS (RW q0 k (sh s) * (IntKind.i64.wrap (50 + (IntKind.i64.wrap a).tmod 251)) + 100) ⟨by omega, by omega⟩] at g
    omega
  intro _
  show decide (wwI q0 k s (IntKind.i64.wrap (50 + (IntKind.i64.wrap a).tmod 251)) ≤ wwI q0 k s (min 300 (IntKind.i64.wrap ((IntKind.i64.wrap (50 + (IntKind.i64.wrap a).tmod 251)) + IntKind.i64.wrap b)))) = true
  rw [wk1, wl1]
  exact decide_eq_true (by omega)
set_option maxRecDepth 100000
/-! how often -/
def cN (s : List UInt8) (b : Int) (n : Nat) : Int := ((s.take n).countP (fun x => decide ((x.toNat : Int) = b)) : Nat)
theorem cN_succ {s : List UInt8} {b : Int} {n : Nat} (h : n < s.length) : cN s b (n + 1) = cN s b n + (if by' s n = b then 1 else 0) := by
  unfold cN
  rw [List.take_succ_eq_append_getElem h, List.countP_append]
  have e : by' s n = (s[n].toNat : Int) := by unfold by'; rw [List.getD_eq_getElem?_getD, List.getElem?_eq_getElem h]; rfl
  rw [e]
  by_cases q : (s[n].toNat : Int) = b
  · rw [if_pos q]; simp [List.countP_cons, q]
  · rw [if_neg q]; simp [List.countP_cons, q]
theorem cN_bd (s : List UInt8) (b : Int) (n : Nat) : 0 ≤ cN s b n ∧ cN s b n ≤ n := by
  unfold cN
  have h1 := List.countP_le_length (p := fun x : UInt8 => decide ((x.toNat : Int) = b)) (l := s.take n)
  have h2 : (s.take n).length ≤ n := by simp; omega
  omega
theorem cN_sh {s : List UInt8} {b : Int} (hb : b ≠ 126) : cN (sh s) b (sh s).length = cN s b s.length := by
  unfold cN
  rw [List.take_length, List.take_length]
  unfold sh
  rw [List.countP_filter]
  congr 1
  refine List.countP_congr fun x _ => ?_
  by_cases q : (x.toNat : Int) = b
  · have : (x != 126) = true := by
      rw [bne_iff_ne]; intro e; subst e; exact hb q.symm
    simp [q, this]
  · simp [q]
theorem cN_0 {s : List UInt8} {b : Int} (h : cN s b s.length = 0) : ∀ x ∈ s, (x.toNat : Int) ≠ b := by
  unfold cN at h
  rw [List.take_length] at h
  have h : s.countP (fun x => decide ((x.toNat : Int) = b)) = 0 := by omega
  rw [List.countP_eq_zero] at h
  intro x hx e
  exact h x hx (by simp [e])
theorem count_ok (s : List UInt8) (b : Int) (hl : s.length ≤ 9223372036854775807) : SemF Try.prog 23 [.str s, .int .u8 b] ⟨0, 0, []⟩ (fun v _ => v = .int .i64 (cN s b s.length) ∧ nameless v = true) := by
  refine enter tt_ok Try.func23 (nt := 21) (cd := body Try.f23) rfl rfl rfl rfl ?_
  intro _
  refine loop2 tt_ok [6, 5] [] 0 (fun i : { i : Nat // i ≤ s.length } => [(6, .int .i64 (i.1 : Nat)), (5, .int .i64 (cN s b i.1))]) (fun _ => []) (fun i => s.length - i.1) ⟨0, by omega⟩ ?_
  intro _
  refine ⟨⟨th [] 0, rfl, rfl, rfl, rfl, rfl, rfl, ?_, ?_⟩, ?_⟩
  · (repeat' first | exact trivial | exact rfl | refine And.intro ?_ ?_)
  · (repeat' first | exact trivial | exact rfl | refine And.intro ?_ ?_)
  intro ⟨i, h3⟩
  intro _; refine ⟨fun g => ?_, fun g => ?_⟩
  rotate_left
  · have hkl := of_decide_eq_false (show decide ((i : Int) < (s.length : Int)) = false from g)
    have hi : i = s.length := by omega
    subst hi
    intro _
    exact ⟨rfl, rfl⟩
  have hkl := of_decide_eq_true (show decide ((i : Int) < (s.length : Int)) = true from g)
  have hb := cN_bd s b i
  have hs := cN_succ (s := s) (b := b) (n := i) (by omega)
  intro _; refine ⟨show 0 ≤ (i : Int) ∧ (i : Int) < (s.length : Int) by omega, ?_⟩
  intro _; refine ⟨fun g => ?_, fun g => ?_⟩
  · have g : (by' s i == b) = true := g
    rw [if_pos (eq_of_beq g)] at hs
    refine ⟨⟨i + 1, by omega⟩, by simp only []; omega, th [] 0, rfl, rfl, rfl, rfl, rfl, rfl, ?_, ?_⟩
    · (repeat' first | exact trivial | exact rfl | refine And.intro ?_ ?_)
      · exact (wrap_nat i (by omega)).symm
      · show cN s b (i + 1) = IntKind.i64.wrap (cN s b i + 1)
        rw [hs, IntKind.wrap_i64]; omega
    · (repeat' first | exact trivial | exact rfl | refine And.intro ?_ ?_)
  have g : (by' s i == b) = false := g
  rw [if_neg (beq_eq_false_iff_ne.1 g), Int.add_zero] at hs
  refine ⟨⟨i + 1, by omega⟩, by simp only []; omega, th [] 0, rfl, rfl, rfl, rfl, rfl, rfl, ?_, ?_⟩
  · (repeat' first | exact trivial | exact rfl | refine And.intro ?_ ?_)
    · exact (wrap_nat i (by omega)).symm
    · show cN s b (i + 1) = cN s b i
      exact hs
  · (repeat' first | exact trivial | exact rfl | refine And.intro ?_ ?_)
/-! a glyph whose advance grows -/
theorem gi_congr {g h : LD} (hl : g.length = h.length) (hb : ∀ i, gB g i = gB h i) (b : Int) : gi g b = gi h b := by
  cases e : gi h b with
  | none => exact gi_no (fun j hj => by rw [hb]; exact gi_none e j (by omega))
  | some m =>
    obtain ⟨k1, k2, k3⟩ := gi_some e
    exact gi_eq (by omega) (by rw [hb]; exact k2) (fun j hj => by rw [hb]; exact k3 j hj)
def grown (q0 : LD) (i : Nat) (m : Int) : LD := q0.set i [(q0.getD i []).getD 0 (.n 0), .n (gA q0 i + m)]
theorem grown_row {q0 : LD} {i : Nat} {m : Int} (hi : i < q0.length) (j : Nat) : (grown q0 i m).getD j [] = if j = i then [(q0.getD i []).getD 0 (.n 0), .n (gA q0 i + m)] else q0.getD j [] := by
  unfold grown
  rw [List.getD_eq_getElem?_getD, List.getElem?_set]
  by_cases e : i = j
  · subst e
    rw [if_pos rfl, if_pos hi, if_pos rfl]; rfl
  · rw [if_neg e, if_neg (fun q => e q.symm), List.getD_eq_getElem?_getD]
theorem grown_len (q0 : LD) (i : Nat) (m : Int) : (grown q0 i m).length = q0.length := by simp [grown]
theorem grown_B {q0 : LD} {i : Nat} {m : Int} (hi : i < q0.length) (j : Nat) : gB (grown q0 i m) j = gB q0 j := by
  unfold gB
  rw [grown_row hi]
  split
  · rename_i e; subst e; rfl
  · rfl
theorem grown_A {q0 : LD} {i : Nat} {m : Int} (hi : i < q0.length) (j : Nat) : gA (grown q0 i m) j = gA q0 j + (if j = i then m else 0) := by
  unfold gA
  rw [grown_row hi]
  split
  · rename_i e; subst e; rfl
  · omega
theorem grown_G {q0 : LD} {i : Nat} {m : Int} (hi : i < q0.length) (hg : GS q0) (b : Int) : aG (grown q0 i m) b = aG q0 b + (if b = gB q0 i then m else 0) ∧ hG (grown q0 i m) b = hG q0 b := by
  have e := gi_congr (g := grown q0 i m) (h := q0) (grown_len q0 i m) (grown_B hi) b
  unfold hG
  rw [e]
  refine ⟨?_, rfl⟩
  unfold aG
  rw [e]
  by_cases q : b = gB q0 i
  · subst q
    rw [if_pos rfl, gi_eq hi rfl (fun j hj => by have := GS_GO hg j i hj hi; omega)]
    simp only []
    rw [grown_A hi, if_pos rfl]
  · rw [if_neg q, Int.add_zero]
    cases e2 : gi q0 b with
    | none => rfl
    | some j =>
      simp only []
      have : j ≠ i := fun e3 => q (by rw [← (gi_some e2).2.1, e3])
      rw [grown_A hi, if_neg this, Int.add_zero]
theorem grown_GS {q0 : LD} {i : Nat} {m : Int} (hi : i < q0.length) (hg : GS q0) (h0 : 0 ≤ m) (h1 : gA q0 i + m ≤ 1000) : GS (grown q0 i m) := by
  intro j hj
  rw [grown_len] at hj
  obtain ⟨a, b, c, d, e⟩ := hg j hj
  refine ⟨by rw [grown_B hi]; exact a, by rw [grown_B hi]; exact b, ?_, ?_, fun h => by rw [grown_B hi, grown_B hi]; exact e h⟩
  · rw [grown_A hi]; split <;> omega
  · rw [grown_A hi]; split
    · rename_i q; subst q; exact h1
    · omega
theorem grown_KS {q0 k : LD} {i : Nat} {m : Int} (hi : i < q0.length) (hg : GS q0) (hk : KS q0 k) (h0 : 0 ≤ m) : KS (grown q0 i m) k := by
  intro j hj
  obtain ⟨a, b, c, d, e⟩ := hk j hj
  refine ⟨by rw [(grown_G hi hg _).2]; exact a, by rw [(grown_G hi hg _).2]; exact b, c, ?_, e⟩
  rw [(grown_G hi hg _).1]; split <;> omega
theorem grown_HOK {q0 k : LD} {s : List UInt8} {i : Nat} {m : Int} (hi : i < q0.length) (h : HOK q0 k s) (h0 : 0 ≤ m) (h1 : gA q0 i + m ≤ 1000) : HOK (grown q0 i m) k s := by
  obtain ⟨⟨a, b, c, d⟩, e, f⟩ := h
  refine ⟨⟨by rw [grown_len]; exact a, b, grown_GS hi c h0 h1, grown_KS hi c d h0⟩, e, fun j hj => ?_⟩
  rw [(grown_G hi c _).2]; exact f j hj
theorem grown_sA {q0 : LD} {i : Nat} {m : Int} (hi : i < q0.length) (hg : GS q0) (u : List UInt8) : ∀ n, n ≤ u.length → sA (grown q0 i m) u n = sA q0 u n + cN u (gB q0 i) n * m
  | 0, _ => by simp [sA, cN]
  | n + 1, h => by
    simp only [sA]
    rw [grown_sA hi hg u n (by omega), (grown_G hi hg _).1, cN_succ (by omega)]
    split
    · rw [Int.add_mul, Int.one_mul]; omega
    · rw [Int.add_zero, Int.add_zero]; omega
theorem grown_RW {q0 k : LD} {i : Nat} {m : Int} (hi : i < q0.length) (hg : GS q0) (s : List UInt8) : RW (grown q0 i m) k (sh s) = RW q0 k (sh s) + cN s (gB q0 i) s.length * m := by
  have hb : gB q0 i ≠ 126 := by have := (hg i hi).2.1; omega
  unfold RW
  rw [grown_sA hi hg _ _ (Nat.le_refl _), cN_sh hb]
  omega
/-! fewer kerns -/
def kp (s : List UInt8) (b : Int) (d : List D) : Bool := decide ((cI d 0 ≠ b ∧ cI d 1 ≠ b) ∨ cN s b s.length > 0)
theorem fst_find {p : List D → Bool} {f : List D → Int} : ∀ (l : LD) (i : Nat), (match fst' p l i with | some m => f (l.getD (m - i) []) | none => 0) = (match l.find? p with | some d => f d | none => 0)
  | [], i => rfl
  | d :: l, i => by
    unfold fst'
    rw [List.find?_cons]
    cases h : p d with
    | true => simp
    | false =>
      simp only [Bool.false_eq_true, if_false]
      rw [← fst_find l (i + 1)]
      cases e : fst' p l (i + 1) with
      | none => rfl
      | some m =>
        have h1 := (fst_some e).1
        simp only []
        rw [show m - i = (m - (i + 1)) + 1 by omega, List.getD_cons_succ]
theorem bK_find (k : LD) (l r : Int) : bK k l r = (match k.find? (fun d => cI d 0 == l && cI d 1 == r) with | some d => cI d 2 | none => 0) := by
  rw [← fst_find (f := fun d => cI d 2) k 0]
  unfold bK ki kB
  cases fst' (fun d => cI d 0 == l && cI d 1 == r) k 0 <;> rfl
theorem bK_filter {k : LD} {q : List D → Bool} {l r : Int} (h : ∀ d, cI d 0 = l → cI d 1 = r → q d = true) : bK (k.filter q) l r = bK k l r := by
  rw [bK_find, bK_find, List.find?_filter]
  have : (fun a => decide (q a = true ∧ (cI a 0 == l && cI a 1 == r) = true)) = (fun d => cI d 0 == l && cI d 1 == r) := by
    funext d
    by_cases e : cI d 0 = l ∧ cI d 1 = r
    · rw [h d e.1 e.2]; simp [e.1, e.2]
    · have : (cI d 0 == l && cI d 1 == r) = false := Bool.eq_false_iff.2 fun e2 => e (kp_iff.1 e2)
      rw [this]; simp
  rw [this]
theorem KO_pw {k : LD} : KO k ↔ k.Pairwise (fun a b => klt (cI a 0) (cI a 1) (cI b 0) (cI b 1)) := by
  rw [List.pairwise_iff_getElem]
  refine ⟨fun h i j hi hj hij => ?_, fun h i j hij hj => ?_⟩
  · have := h i j hij hj
    unfold kL kR at this
    rw [List.getD_eq_getElem?_getD, List.getElem?_eq_getElem hi, List.getD_eq_getElem?_getD, List.getElem?_eq_getElem hj] at this
    exact this
  · have := h i j (by omega) hj hij
    unfold kL kR
    rw [List.getD_eq_getElem?_getD, List.getElem?_eq_getElem (by omega), List.getD_eq_getElem?_getD, List.getElem?_eq_getElem hj]
    exact this
theorem KS_filter {g k : LD} (q : List D → Bool) (h : KS g k) : KS g (k.filter q) := by
  have hp : KO (k.filter q) := KO_pw.2 ((KO_pw.1 (KS_KO h)).filter q)
  intro i hi
  have hm : (k.filter q).getD i [] ∈ k.filter q := by
    rw [List.getD_eq_getElem?_getD, List.getElem?_eq_getElem hi]; exact List.getElem_mem hi
  have hm2 := (List.mem_filter.1 hm).1
  obtain ⟨j, hj, e⟩ := List.getElem_of_mem hm2
  obtain ⟨a, b, c, d, _⟩ := h j hj
  simp only [kL, kR, kB] at a b c d
  rw [show k.getD j [] = k[j] by rw [List.getD_eq_getElem?_getD, List.getElem?_eq_getElem hj]; rfl, e] at a b c d
  exact ⟨a, b, c, d, fun h0 => hp (i - 1) i (by omega) hi⟩
theorem fil_HOK {g k : LD} {s : List UInt8} (q : List D → Bool) (h : HOK g k s) : HOK g (k.filter q) s := by
  obtain ⟨⟨a, b, c, d⟩, e, f⟩ := h
  exact ⟨⟨a, Nat.le_trans (List.length_filter_le _ _) b, c, KS_filter q d⟩, e, f⟩
theorem fil_bK {k : LD} {s : List UInt8} {b : Int} {l r : UInt8} (hl : l ∈ s) (hr : r ∈ s) : bK (k.filter (kp s b)) (l.toNat : Int) (r.toNat : Int) = bK k (l.toNat : Int) (r.toNat : Int) := by
  refine bK_filter fun d h1 h2 => ?_
  unfold kp
  rcases Int.lt_or_le 0 (cN s b s.length) with q | q
  · exact decide_eq_true (.inr q)
  · have h0 : cN s b s.length = 0 := by have := cN_bd s b s.length; omega
    have := cN_0 h0
    exact decide_eq_true (.inl ⟨by rw [h1]; exact this l hl, by rw [h2]; exact this r hr⟩)
theorem sh_mem {s : List UInt8} {i : Nat} (h : i < (sh s).length) : (sh s).getD i 0 ∈ s :=
  (List.mem_filter.1 (show (sh s).getD i 0 ∈ s.filter fun b => b != 126 from by_mem h)).1
theorem fil_sK {k : LD} {s : List UInt8} {b : Int} : ∀ n, n ≤ (sh s).length → sK (k.filter (kp s b)) (sh s) n = sK k (sh s) n
  | 0, _ => rfl
  | n + 1, h => by
    simp only [sK]
    rw [fil_sK n (by omega)]
    split
    · unfold by'
      rw [fil_bK (sh_mem (by omega)) (sh_mem (by omega))]
    · rfl
theorem fil_RW {g k : LD} {s : List UInt8} {b : Int} : RW g (k.filter (kp s b)) (sh s) = RW g k (sh s) := by
  unfold RW; rw [fil_sK _ (Nat.le_refl _)]
theorem take_fil {k : LD} {q : List D → Bool} {m : Nat} (h : m < k.length) : (k.take (m + 1)).filter q = (k.take m).filter q ++ (if q (k.getD m []) then [k.getD m []] else []) := by
  have e : k.getD m [] = k[m] := by rw [List.getD_eq_getElem?_getD, List.getElem?_eq_getElem h]; rfl
  rw [List.take_succ_eq_append_getElem h, List.filter_append, e]
  congr 1
  simp only [List.filter_cons, List.filter_nil]
theorem nrm {k : LD} (h : ∀ n ∈ k, rowWf [.int .u8, .int .u8, .int .i64] n) {m : Nat} (hm : m < k.length) : k.getD m [] = [.n (kL k m), .n (kR k m), .n (kB k m)] := by
  have hmem : k.getD m [] ∈ k := by
    rw [List.getD_eq_getElem?_getD, List.getElem?_eq_getElem hm]; exact List.getElem_mem hm
  obtain ⟨hl, hw⟩ := h _ hmem
  unfold kL kR kB cI
  generalize k.getD m [] = d at hl hw ⊢
  obtain ⟨a, ea, _⟩ := hw 0 (.int .u8) rfl
  obtain ⟨b, eb, _⟩ := hw 1 (.int .u8) rfl
  obtain ⟨c, ec, _⟩ := hw 2 (.int .i64) rfl
  match d, hl with
  | [x, y, z], _ =>
    have ea : x = .n a := ea
    have eb : y = .n b := eb
    have ec : z = .n c := ec
    subst ea eb ec
    rfl
set_option maxHeartbeats 4000000 in
theorem law7 (q0 k : LD) (s : List UInt8) (wh by0 ot : Int) (hw : WG q0) (hk3 : ∀ n ∈ k, rowWf [.int .u8, .int .u8, .int .i64] n) (h1 : q0.length ≤ 9223372036854775807) (h2 : k.length ≤ 9223372036854775807) (hl : s.length ≤ 9223372036854775807) (ha : 0 ≤ wh ∧ wh ≤ 255) (hb : 0 ≤ by0 ∧ by0 ≤ 65535) : SemF Try.prog 7 [.agg [.slc 0 2 0 q0.length, .slc 1 3 0 k.length], .str s, .int .u8 wh, .int .u16 by0, .int .u8 ot] ⟨2, 2, [(0, .arr [.int .u8, .int .i64] .ro (.recs q0)), (1, .arr [.int .u8, .int .u8, .int .i64] .ro (.recs k))]⟩ (fun v _ => IsTrue v) := by
  refine enter tt_ok Try.func7 (nt := 154) (cd := body Try.f7) rfl rfl rfl rfl ?_
  intro _
  refine head_ok rfl Try.func8 (cd := body Try.f8) rfl ?_
  intro _
  refine call_pure [(0, some 0), (1, some 1)] (usable_ok q0 k s hl) rfl rfl rfl ?_ ?_ ?_
  · (repeat' first | exact trivial | exact rfl | refine And.intro ?_ ?_)
  · (repeat' first | exact trivial | exact rfl | refine And.intro ?_ ?_)
  intro v hv _
  subst hv
  intro _; refine ⟨fun g => ?_, fun g => ?_⟩
  · intro _
    rfl
  have g : (!decide (US q0 k s)) = false := g
  rw [Bool.not_eq_false'] at g
  obtain ⟨_, hs3, hH⟩ := of_decide_eq_true g
  intro _; refine ⟨fun g => ?_, fun g => ?_⟩
  · intro _
    rfl
  have g4 : ((q0.length : Int) == 0) = false := g
  have g4 := beq_eq_false_iff_ne.1 g4
  have hgs := hH.1.2.2.1
  have hks := hH.1.2.2.2
  have hgl := hH.1.1
  have hkl0 := hH.1.2.1
  have e2 : IntKind.i64.wrap wh = wh := wrapS wh ⟨by omega, by omega⟩
  have e3 : IntKind.i64.wrap by0 = by0 := wrapS by0 ⟨by omega, by omega⟩
  obtain ⟨i, hi, eI⟩ := mod_nat (a := wh) (n := q0.length) ha.1 (by omega)
  have eI : ((IntKind.i64.wrap wh).tmod (q0.length : Int)) = (i : Int) := by rw [e2]; exact eI
  have eG0 : (([] : LD) ++ (q0.drop 0).take q0.length) = q0 := by simp
  obtain ⟨w8, w9, wa, wb, _⟩ := hgs i hi
  have eMO : (min (IntKind.i64.wrap by0) (IntKind.i64.wrap (1000 - cI ((([] : LD) ++ (q0.drop 0).take q0.length).getD ((IntKind.i64.wrap wh).tmod (q0.length : Int)).toNat []) 1))) = min by0 (1000 - gA q0 i) := by
    rw [eI, eG0, e3, Int.toNat_natCast]
    show min by0 (IntKind.i64.wrap (1000 - gA q0 i)) = _
    rw [wrapS _ ⟨by omega, by omega⟩]
  have eG1 : ((([] : LD) ++ (q0.drop 0).take q0.length).set ((IntKind.i64.wrap wh).tmod (q0.length : Int)).toNat [((([] : LD) ++ (q0.drop 0).take q0.length).getD ((IntKind.i64.wrap wh).tmod (q0.length : Int)).toNat []).getD 0 (.n 0), .n (IntKind.i64.wrap (cI ((([] : LD) ++ (q0.drop 0).take q0.length).getD ((IntKind.i64.wrap wh).tmod (q0.length : Int)).toNat []) 1 + (min (IntKind.i64.wrap by0) (IntKind.i64.wrap (1000 - cI ((([] : LD) ++ (q0.drop 0).take q0.length).getD ((IntKind.i64.wrap wh).tmod (q0.length : Int)).toNat []) 1)))))]) = grown q0 i (min by0 (1000 - gA q0 i)) := by
    rw [eMO, eI, eG0, Int.toNat_natCast]
    show q0.set i [(q0.getD i []).getD 0 (.n 0), .n (IntKind.i64.wrap (gA q0 i + min by0 (1000 - gA q0 i)))] = _
    rw [wrapS _ ⟨by omega, by omega⟩]; rfl
  have hm0 : 0 ≤ min by0 (1000 - gA q0 i) := by omega
  have hm1 : gA q0 i + min by0 (1000 - gA q0 i) ≤ 1000 := by omega
  intro _; refine ⟨by omega, ?_⟩
  intro _
  refine Or.inl ?_
  intro _; refine ⟨show 0 + q0.length ≤ q0.length by omega, ?_⟩
  intro _; refine ⟨fun g => absurd (Nat.eq_of_beq_eq_true g) (by omega), fun _ => ?_⟩
  refine ⟨⟨rfl, show 0 + q0.length ≤ 4611686018427387904 by omega, show (0 + q0.length) * 16 ≤ 140737488355328 by omega⟩, ?_⟩
  intro _; refine ⟨by kernel_rfl, ?_⟩
  have hlG : ((([] : LD) ++ (q0.drop 0).take q0.length)).length = q0.length := by rw [eG0]
  intro _; refine ⟨show 0 ≤ ((IntKind.i64.wrap wh).tmod (q0.length : Int)) ∧ ((IntKind.i64.wrap wh).tmod (q0.length : Int)) < ((0 + q0.length : Nat) : Int) by rw [eI]; omega, ?_⟩
  intro _; refine ⟨show ((IntKind.i64.wrap wh).tmod (q0.length : Int)).toNat < ((([] : LD) ++ (q0.drop 0).take q0.length)).length by rw [eI, hlG]; omega, ?_⟩
  intro _; refine ⟨show 0 ≤ ((IntKind.i64.wrap wh).tmod (q0.length : Int)) ∧ ((IntKind.i64.wrap wh).tmod (q0.length : Int)) < ((0 + q0.length : Nat) : Int) by rw [eI]; omega, ?_⟩
  intro _; refine ⟨show ((IntKind.i64.wrap wh).tmod (q0.length : Int)).toNat < ((([] : LD) ++ (q0.drop 0).take q0.length)).length by rw [eI, hlG]; omega, ?_⟩
  intro _; refine ⟨show 0 ≤ ((IntKind.i64.wrap wh).tmod (q0.length : Int)) ∧ ((IntKind.i64.wrap wh).tmod (q0.length : Int)) < ((0 + q0.length : Nat) : Int) by rw [eI]; omega, ?_⟩
  intro _; refine ⟨show ((IntKind.i64.wrap wh).tmod (q0.length : Int)).toNat < ((([] : LD) ++ (q0.drop 0).take q0.length)).length by rw [eI, hlG]; omega, ?_⟩
  intro _
  refine loop2 tt_ok [76] [6, 7] 8 (fun m : { m : Nat // m ≤ k.length } => [(76, .int .i64 (m.1 : Nat))]) (fun m => [(6, .cells [.slc 0 2 0 q0.length, .grw 7 ((k.take m.1).filter (kp s ot)).length]), (7, .arr [.int .u8, .int .u8, .int .i64] .grow (.recs ((k.take m.1).filter (kp s ot))))]) (fun m => k.length - m.1) ⟨0, by omega⟩ ?_
  intro _
  refine ⟨⟨th [(7, none)] 8, rfl, rfl, rfl, rfl, rfl, rfl, ?_, ?_⟩, ?_⟩
  · (repeat' first | exact trivial | exact rfl | refine And.intro ?_ ?_)
  · (repeat' first | exact trivial | exact rfl | refine And.intro ?_ ?_)
  intro ⟨m, h3⟩
  have hfl : ((k.take m).filter (kp s ot)).length ≤ m := Nat.le_trans (List.length_filter_le _ _) (by simp; omega)
  intro _; refine ⟨fun g => ?_, fun g => ?_⟩
  · have hkl := of_decide_eq_true (show decide ((m : Int) < (k.length : Int)) = true from g)
    have hmk : m < k.length := by omega
    have ei : 0 + (m : Int).toNat = m := by omega
    have hrow := nrm hk3 hmk
    have htf := take_fil (q := kp s ot) hmk
    intro _; refine ⟨show 0 ≤ (m : Int) ∧ (m : Int) < (k.length : Int) by omega, ?_⟩
    intro _; refine ⟨show 0 + (m : Int).toNat < k.length by omega, ?_⟩
    intro _; refine ⟨fun g => ?_, fun g => ?_⟩
    · have ga : (kL k (0 + (m : Int).toNat) != ot) = true := g
      rw [ei, bne_iff_ne] at ga
      intro _; refine ⟨fun g => ?_, fun g => ?_⟩
      · have gb : (kR k (0 + (m : Int).toNat) != ot) = true := g
        rw [ei, bne_iff_ne] at gb
        have hkp : kp s ot (k.getD m []) = true := decide_eq_true (.inl ⟨ga, gb⟩)
        intro _; refine ⟨rfl, ?_⟩
        intro _; refine ⟨fun g3 => by simp at g3, fun _ => ?_⟩
        refine ⟨⟨rfl, show ((k.take m).filter (kp s ot)).length + 1 ≤ 4611686018427387904 by omega, show (((k.take m).filter (kp s ot)).length + 1) * 16 ≤ 140737488355328 by omega⟩, ?_⟩
        rw [if_pos hkp] at htf
        refine ⟨⟨m + 1, by omega⟩, by simp only []; omega, th [(7, some 10)] 8, rfl, rfl, rfl, rfl, rfl, rfl, ?_, ?_⟩
        · (repeat' first | exact trivial | exact rfl | refine And.intro ?_ ?_)
          · exact (wrap_nat m (by omega)).symm
        · (repeat' first | exact trivial | exact rfl | refine And.intro ?_ ?_)
          · rw [htf, List.length_append]; (repeat' first | exact trivial | exact rfl | refine And.intro ?_ ?_)
          · rw [htf, hrow]
            exact (show (k.take m).filter (kp s ot) ++ [[.n (kL k m), .n (kR k m), .n (kB k m)]] = (k.take m).filter (kp s ot) ++ [[.n (kL k (0 + (m : Int).toNat)), .n (kR k (0 + (m : Int).toNat)), .n (kB k (0 + (m : Int).toNat))]] by rw [ei])
      have gb : (kR k (0 + (m : Int).toNat) != ot) = false := g
      rw [ei, bne_eq_false_iff_eq] at gb
      intro _
      refine Or.inr ?_
      intro _
      refine call_pure [] (count_ok s ot hl) rfl rfl rfl ?_ ?_ ?_
      · (repeat' first | exact trivial | exact rfl | refine And.intro ?_ ?_)
      · (repeat' first | exact trivial | exact rfl | refine And.intro ?_ ?_)
      intro v hv _
      subst hv
      intro _; refine ⟨fun g => ?_, fun g => ?_⟩
      · have gc := of_decide_eq_true (show decide (cN s ot s.length > 0) = true from g)
        have hkp : kp s ot (k.getD m []) = true := decide_eq_true (.inr gc)
        intro _; refine ⟨rfl, ?_⟩
        intro _; refine ⟨fun g3 => by simp at g3, fun _ => ?_⟩
        refine ⟨⟨rfl, show ((k.take m).filter (kp s ot)).length + 1 ≤ 4611686018427387904 by omega, show (((k.take m).filter (kp s ot)).length + 1) * 16 ≤ 140737488355328 by omega⟩, ?_⟩
        rw [if_pos hkp] at htf
        refine ⟨⟨m + 1, by omega⟩, by simp only []; omega, th [(7, some 10)] 8, rfl, rfl, rfl, rfl, rfl, rfl, ?_, ?_⟩
        · (repeat' first | exact trivial | exact rfl | refine And.intro ?_ ?_)
          · exact (wrap_nat m (by omega)).symm
        · (repeat' first | exact trivial | exact rfl | refine And.intro ?_ ?_)
          · rw [htf, List.length_append]; (repeat' first | exact trivial | exact rfl | refine And.intro ?_ ?_)
          · rw [htf, hrow]
            exact (show (k.take m).filter (kp s ot) ++ [[.n (kL k m), .n (kR k m), .n (kB k m)]] = (k.take m).filter (kp s ot) ++ [[.n (kL k (0 + (m : Int).toNat)), .n (kR k (0 + (m : Int).toNat)), .n (kB k (0 + (m : Int).toNat))]] by rw [ei])
      have gc := of_decide_eq_false (show decide (cN s ot s.length > 0) = false from g)
      have hkp : ¬ kp s ot (k.getD m []) = true := fun e => by
        rcases of_decide_eq_true e with h | h
        · exact h.2 gb
        · exact gc h
      rw [if_neg hkp, List.append_nil] at htf
      refine ⟨⟨m + 1, by omega⟩, by simp only []; omega, th [] 8, rfl, rfl, rfl, rfl, rfl, rfl, ?_, ?_⟩
      · (repeat' first | exact trivial | exact rfl | refine And.intro ?_ ?_)
        · exact (wrap_nat m (by omega)).symm
      · (repeat' first | exact trivial | exact rfl | refine And.intro ?_ ?_)
        all_goals (rw [htf]; (repeat' first | exact trivial | exact rfl | refine And.intro ?_ ?_))
    have ga : (kL k (0 + (m : Int).toNat) != ot) = false := g
    rw [ei, bne_eq_false_iff_eq] at ga
    intro _
    refine Or.inr ?_
    intro _
    refine call_pure [] (count_ok s ot hl) rfl rfl rfl ?_ ?_ ?_
    · (repeat' first | exact trivial | exact rfl | refine And.intro ?_ ?_)
    · (repeat' first | exact trivial | exact rfl | refine And.intro ?_ ?_)
    intro v hv _
    subst hv
    intro _; refine ⟨fun g => ?_, fun g => ?_⟩
    · have gc := of_decide_eq_true (show decide (cN s ot s.length > 0) = true from g)
      have hkp : kp s ot (k.getD m []) = true := decide_eq_true (.inr gc)
      intro _; refine ⟨rfl, ?_⟩
      intro _; refine ⟨fun g3 => by simp at g3, fun _ => ?_⟩
      refine ⟨⟨rfl, show ((k.take m).filter (kp s ot)).length + 1 ≤ 4611686018427387904 by omega, show (((k.take m).filter (kp s ot)).length + 1) * 16 ≤ 140737488355328 by omega⟩, ?_⟩
      rw [if_pos hkp] at htf
      refine ⟨⟨m + 1, by omega⟩, by simp only []; omega, th [(7, some 10)] 8, rfl, rfl, rfl, rfl, rfl, rfl, ?_, ?_⟩
      · (repeat' first | exact trivial | exact rfl | refine And.intro ?_ ?_)
        · exact (wrap_nat m (by omega)).symm
      · (repeat' first | exact trivial | exact rfl | refine And.intro ?_ ?_)
        · rw [htf, List.length_append]; (repeat' first | exact trivial | exact rfl | refine And.intro ?_ ?_)
        · rw [htf, hrow]
          exact (show (k.take m).filter (kp s ot) ++ [[.n (kL k m), .n (kR k m), .n (kB k m)]] = (k.take m).filter (kp s ot) ++ [[.n (kL k (0 + (m : Int).toNat)), .n (kR k (0 + (m : Int).toNat)), .n (kB k (0 + (m : Int).toNat))]] by rw [ei])
    have gc := of_decide_eq_false (show decide (cN s ot s.length > 0) = false from g)
    have hkp : ¬ kp s ot (k.getD m []) = true := fun e => by
      rcases of_decide_eq_true e with h | h
      · exact h.1 ga
      · exact gc h
    rw [if_neg hkp, List.append_nil] at htf
    refine ⟨⟨m + 1, by omega⟩, by simp only []; omega, th [] 8, rfl, rfl, rfl, rfl, rfl, rfl, ?_, ?_⟩
    · (repeat' first | exact trivial | exact rfl | refine And.intro ?_ ?_)
      · exact (wrap_nat m (by omega)).symm
    · (repeat' first | exact trivial | exact rfl | refine And.intro ?_ ?_)
      all_goals (rw [htf]; (repeat' first | exact trivial | exact rfl | refine And.intro ?_ ?_))
  have hkl := of_decide_eq_false (show decide ((m : Int) < (k.length : Int)) = false from g)
  have hme : m = k.length := by omega
  subst hme
  have eF : k.filter (kp s ot) = (k.take k.length).filter (kp s ot) := by rw [List.take_length]
  have hHg := grown_HOK hi hH hm0 hm1
  have hHf := fil_HOK (kp s ot) hH
  obtain ⟨r1, x1⟩ := rw_of hH
  obtain ⟨r2, x2⟩ := rw_of hHg
  obtain ⟨r3, x3⟩ := rw_of hHf
  have bR := RW_bd hH
  have hc := cN_bd s (gB q0 i) s.length
  have eRg := grown_RW (k := k) (m := min by0 (1000 - gA q0 i)) hi hgs s
  have eRf := fil_RW (g := q0) (k := k) (s := s) (b := ot)
  have hwg : WG (grown q0 i (min by0 (1000 - gA q0 i))) := fun j hj => by rw [grown_B hi]; rw [grown_len] at hj; exact hw j hj
  have hmul : 0 ≤ cN s (gB q0 i) s.length * min by0 (1000 - gA q0 i) ∧ cN s (gB q0 i) s.length * min by0 (1000 - gA q0 i) ≤ 300000 := by
    refine ⟨Int.mul_nonneg hc.1 hm0, ?_⟩
    have a1 : cN s (gB q0 i) s.length * min by0 (1000 - gA q0 i) ≤ 300 * min by0 (1000 - gA q0 i) := Int.mul_le_mul_of_nonneg_right (by omega) hm0
    omega
  intro _
  refine call_pure [(0, some 0), (1, some 1)] (Raw_ok q0 k s hw h1 h2 hl) rfl rfl rfl ?_ ?_ ?_
  · (repeat' first | exact trivial | exact rfl | refine And.intro ?_ ?_)
  · (repeat' first | exact trivial | exact rfl | refine And.intro ?_ ?_)
  intro v hv _
  subst hv
  intro _
  refine call_pure [(0, some 4), (1, some 1)] (Raw_ok (grown q0 i (min by0 (1000 - gA q0 i))) k s hwg (by rw [grown_len]; exact h1) h2 hl) rfl rfl rfl ?_ ?_ ?_
  · (repeat' first | exact trivial | exact rfl | refine And.intro ?_ ?_)
    exact eG1.symm
  · (repeat' first | exact trivial | exact rfl | refine And.intro ?_ ?_)
    exact (grown_len _ _ _).trans (Nat.zero_add _).symm
  intro v hv _
  subst hv
  intro _
  refine call_pure [(0, some 0), (1, some 7)] (Raw_ok q0 (k.filter (kp s ot)) s hw h1 (by have := List.length_filter_le (kp s ot) k; omega) hl) rfl rfl rfl ?_ ?_ ?_
  · (repeat' first | exact trivial | exact rfl | refine And.intro ?_ ?_)
    exact eF
  · (repeat' first | exact trivial | exact rfl | refine And.intro ?_ ?_)
    exact congrArg List.length eF
  intro v hv _
  subst hv
  intro _; refine ⟨fun g => ?_, fun g => ?_⟩
  · exact absurd (show (reI q0 k s != 0) = true from g) (by rw [x1]; exact ne0)
  intro _; refine ⟨fun g => ?_, fun g => ?_⟩
  · exact absurd (show (reI (grown q0 i (min by0 (1000 - gA q0 i))) k s != 0) = true from g) (by rw [x2]; exact ne0)
  intro _; refine ⟨fun g => ?_, fun g => ?_⟩
  · exact absurd (show (reI q0 (k.filter (kp s ot)) s != 0) = true from g) (by rw [x3]; exact ne0)
  intro _; refine ⟨show 0 ≤ ((IntKind.i64.wrap wh).tmod (q0.length : Int)) ∧ ((IntKind.i64.wrap wh).tmod (q0.length : Int)) < (q0.length : Int) by rw [eI]; omega, ?_⟩
  intro _; refine ⟨show 0 + ((IntKind.i64.wrap wh).tmod (q0.length : Int)).toNat < q0.length by rw [eI]; omega, ?_⟩
  intro _
  refine Or.inr ?_
  intro _
  refine call_pure [] (count_ok s (gB q0 (0 + ((IntKind.i64.wrap wh).tmod (q0.length : Int)).toNat)) hl) rfl rfl rfl ?_ ?_ ?_
  · (repeat' first | exact trivial | exact rfl | refine And.intro ?_ ?_)
  · (repeat' first | exact trivial | exact rfl | refine And.intro ?_ ?_)
  intro v hv _
  subst hv
  have ez : 0 + ((IntKind.i64.wrap wh).tmod (q0.length : Int)).toNat = i := by rw [eI]; omega
  intro _; refine ⟨fun g => ?_, fun g => ?_⟩
  rotate_left
  · exfalso
    have g := beq_eq_false_iff_ne.1 (show (rwI (grown q0 i (min by0 (1000 - gA q0 i))) k s == IntKind.i64.wrap (rwI q0 k s + IntKind.i64.wrap (cN s (gB q0 (0 + ((IntKind.i64.wrap wh).tmod (q0.length : Int)).toNat)) s.length * (min (IntKind.i64.wrap by0) (IntKind.i64.wrap (1000 - cI ((([] : LD) ++ (q0.drop 0).take q0.length).getD ((IntKind.i64.wrap wh).tmod (q0.length : Int)).toNat []) 1)))))) = false from g)
    apply g
    rw [ez, eMO, r1, r2, wrapS (cN s (gB q0 i) s.length * min by0 (1000 - gA q0 i)) ⟨by omega, by omega⟩, wrapS _ ⟨by omega, by omega⟩]
    exact eRg
  intro _
  show (rwI q0 (k.filter (kp s ot)) s == rwI q0 k s) = true
  rw [r1, r3, eRf]
  exact beq_self_eq_true _

theorem agg_cv {n : Nat} {ν : Nu} {vs : List V} {as' : List Go.Vm.AV} (h : Cvs n ν vs as') : Cv n ν (.agg vs) (.agg as') := by
  simp only [Cv]; exact ⟨as', rfl, h⟩
def fieldsSt (P : Program) : Nat → List Field → List TypeId → Bool
  | _, [], [] => true
  | j, f :: fs, u :: us => Nat.beq f.offset j && Nat.beq (P.cellsOf f.type) 1 && Nat.beq f.type u && fieldsSt P (j + 1) fs us
  | _, _, _ => false
theorem fieldsSt_get {P : Program} : ∀ {fs : List Field} {ts : List TypeId} {j0 : Nat}, fieldsSt P j0 fs ts = true → ∀ (j : Nat) (u : TypeId), ts[j]? = some u → ∃ f, fs[j]? = some f ∧ f.offset = j0 + j ∧ P.cellsOf f.type = 1 ∧ f.type = u
  | [], [], _, _ => fun j u e => by simp at e
  | [], _ :: _, _, h => by simp [fieldsSt] at h
  | _ :: _, [], _, h => by simp [fieldsSt] at h
  | f :: fs, u :: us, j0, h => by
    simp only [fieldsSt, Bool.and_eq_true] at h
    obtain ⟨⟨⟨h1, h2⟩, h3⟩, h4⟩ := h
    intro j u' e
    cases j with
    | zero =>
      simp at e; subst e
      exact ⟨f, rfl, Nat.eq_of_beq_eq_true h1, Nat.eq_of_beq_eq_true h2, Nat.eq_of_beq_eq_true h3⟩
    | succ j =>
      simp at e
      obtain ⟨f', e1, e2, e3⟩ := fieldsSt_get h4 j u' e
      exact ⟨f', by simpa using e1, by rw [e2]; omega, e3⟩
theorem open_st {H : Type} {enc : TypeId × Value → H} {P : Program} {w : World} {base : Nat} {spare : Nat → Bool} {held : Bool} {r : Reach} {t : TypeId} {fs : Array Field} {ts : List TypeId} {v : Value} {d : DataW H} {p : List MemPlace} (ht : P.underlying t = some (.struct fs)) (hts : P.cellTypes P.depth t = some ts) (hC : P.cellsOf t = ts.length) (hf : fieldsSt P 0 fs.toList ts = true)
    (hval : Value.okWide P w r base t v) (h : DataW.Trod enc P w 0 spare held t v d p) :
    ∃ cs : Array Value, v = .agg cs ∧ cs.size = ts.length ∧ ∀ (j : Nat) (u : TypeId), ts[j]? = some u → ∃ x d' p' fuel, cs[j]? = some x ∧ Cell.okWide P w r base u x ∧ DataW.trod enc P w 0 spare held fuel u [x] = some (d', p') := by
  unfold Value.okWide at hval
  rw [ht] at hval
  obtain ⟨cs, rfl, hs, ts', ht', _, hk⟩ := hval
  rw [hts] at ht'
  simp only [Option.some.injEq] at ht'
  subst ht'
  obtain ⟨fuel, h⟩ := h
  obtain ⟨xs, n, _, _, hl, hxl, hf'⟩ := DataW.trod_struct ht h
  refine ⟨cs, rfl, by rw [hs, hC], fun j u hu => ?_⟩
  obtain ⟨f, e1, e2, e3, rfl⟩ := fieldsSt_get hf j u hu
  have hj : j < ts.length := (List.getElem?_eq_some_iff.1 hu).1
  have hjc : j < cs.size := by rw [hs, hC]; exact hj
  obtain ⟨u', hu', hok⟩ := hk j cs[j] (by simp [hjc])
  rw [Nat.mod_eq_of_lt hj, hu] at hu'
  cases hu'
  have e4 := hf' j f (by simpa using e1)
  rw [e2, e3, Nat.zero_add] at e4
  have e5 : ((Value.agg cs).cells.toList.drop j).take 1 = [cs[j]] := by
    show (cs.toList.drop j).take 1 = _
    rw [List.drop_eq_getElem_cons (by simpa using hjc)]; simp
  rw [e5] at e4
  have hjf : j < fs.toList.length := (List.getElem?_eq_some_iff.1 e1).1
  have hjx : j < xs.length := by rw [hxl]; simpa using hjf
  rw [List.getElem?_eq_getElem hjx] at e4
  exact ⟨cs[j], xs[j].1, xs[j].2, n, by simp [hjc], hok, e4⟩
theorem walk (w : World) (v_q0 : Value) (s_q0 : Src) (q0 : List (List Go.Vm2.D)) (cap_q0 : Nat) (hk_q0 : s_q0.ks = [.int .u8, .int .i64]) (ha_q0 : s_q0.ac = .recs q0) (hs_q0 : s_q0.lies w) (hn_q0 : s_q0.at_ = none → q0.length = 0) (hc_q0 : q0.length ≤ cap_q0) (hv_q0 : v_q0 = s_q0.val cap_q0) (hm_q0 : q0.length ≤ maxLen) (w_q0 : ∀ n ∈ q0, rowWf [.int .u8, .int .i64] n) (v_k : Value) (s_k : Src) (k : List (List Go.Vm2.D)) (cap_k : Nat) (hk_k : s_k.ks = [.int .u8, .int .u8, .int .i64]) (ha_k : s_k.ac = .recs k) (hs_k : s_k.lies w) (hn_k : s_k.at_ = none → k.length = 0) (hc_k : k.length ≤ cap_k) (hv_k : v_k = s_k.val cap_k) (hm_k : k.length ≤ maxLen) (w_k : ∀ n ∈ k, rowWf [.int .u8, .int .u8, .int .i64] n) (s : List UInt8) (m_s : s.length ≤ maxLen) (wh : Int) (w_wh : (Lit.int .u8 wh).wf = true) (by0 : Int) (w_by0 : (Lit.int .u16 by0).wf = true) (ot : Int) (w_ot : (Lit.int .u8 ot).wf = true) :
    Calls Try.prog 7 #[.agg #[v_q0, v_k], .string ⟨s.toArray⟩, .int .u8 wh, .int .u16 by0, .int .u8 ot] w fun e w' => e = .returned (.bool true) ∧ Below w.heap.size w w' := by
  obtain ⟨at_q0, ks_q0, ac_q0⟩ := s_q0
  simp only [] at hk_q0 ha_q0
  subst hk_q0 ha_q0
  have h_q0 : q0.length ≤ 9223372036854775807 := by unfold maxLen at hm_q0; omega
  obtain ⟨at_k, ks_k, ac_k⟩ := s_k
  simp only [] at hk_k ha_k
  subst hk_k ha_k
  have h_k : k.length ≤ 9223372036854775807 := by unfold maxLen at hm_k; omega
  have h_s : s.length ≤ 9223372036854775807 := by unfold maxLen at m_s; omega
  have b_wh := w_wh
  simp [Lit.wf, IntKind.min, IntKind.max, IntKind.signed, IntKind.bits] at b_wh
  have b_by0 := w_by0
  simp [Lit.wf, IntKind.min, IntKind.max, IntKind.signed, IntKind.bits] at b_by0
  have b_ot := w_ot
  simp [Lit.wf, IntKind.min, IntKind.max, IntKind.signed, IntKind.bits] at b_ot
  exact top_run (by kernel_rfl) (by kernel_rfl) (T := [8]) (fun f hf w => by
      rcases List.mem_cons.1 hf with e | e
      · subst e; exact head w
      · exact (List.not_mem_nil e).elim) (l := [⟨at_q0, [.int .u8, .int .i64], .recs q0⟩, ⟨at_k, [.int .u8, .int .u8, .int .i64], .recs k⟩]) (args := [.agg [.slc 0 2 0 q0.length, .slc 1 3 0 k.length], .str s, .int .u8 wh, .int .u16 by0, .int .u8 ot]) («as» := [.agg [Src.av 0 cap_q0 ⟨at_q0, [.int .u8, .int .i64], .recs q0⟩, Src.av 1 cap_k ⟨at_k, [.int .u8, .int .u8, .int .i64], .recs k⟩], .str s, .int .u8 wh, .int .u16 by0, .int .u8 ot]) (cargs := [.agg #[v_q0, v_k], .string ⟨s.toArray⟩, .int .u8 wh, .int .u16 by0, .int .u8 ot]) w
    (fun s h => by
      rcases List.mem_cons.1 h with e | h
      · subst e; exact hs_q0
      · rcases List.mem_cons.1 h with e | h
        · subst e; exact hs_k
        · exact (List.not_mem_nil h).elim)
    (Cvs.cons (agg_cv (Cvs.cons (src_cv (s := ⟨at_q0, [.int .u8, .int .i64], .recs q0⟩) rfl 2 hc_q0 hn_q0) (Cvs.cons (src_cv (s := ⟨at_k, [.int .u8, .int .u8, .int .i64], .recs k⟩) rfl 3 hc_k hn_k) Cvs.nil))) (Cvs.cons mk_str (Cvs.cons mk_int (Cvs.cons mk_int (Cvs.cons mk_int Cvs.nil)))))
    (by simp only [Go.Vm.convs, Go.Vm.conv]; rw [src_conv (j := 0) (s := ⟨at_q0, [.int .u8, .int .i64], .recs q0⟩) rfl, src_conv (j := 1) (s := ⟨at_k, [.int .u8, .int .u8, .int .i64], .recs k⟩) rfl]; subst hv_q0 hv_k; rfl)
    ((law7 q0 k s wh by0 ot (wfg w_q0) w_k h_q0 h_k h_s b_wh b_by0))

set_option maxRecDepth 100000 in
theorem lifted (os : Os) (started : os.Started) (H : Type) (enc : TypeId × Value → H) :
    ReturnsInHanded {} Try.checked os 7 .any (Rows.fontAdvancesSpec.pre6 enc Try.prog Try.f7 Rows.fontAdvancesRow.domain false) (Rows.fontAdvancesSpec.post enc Try.prog Try.f7 false true false false) := by
  refine returnsInHanded_of_change (C := Try.checked) own started (by kernel_rfl) Try.func7
    (ChangeSpec.witness6 (enc := enc) (C := Try.checked) false ⟨#[], #[.agg #[.slice none 0 0, .slice none 0 0], .string ⟨#[]⟩, .int .u8 0, .int .u16 0, .int .u8 0], []⟩ 8 (by kernel_rfl) (by kernel_rfl) (by kernel_rfl) (by kernel_rfl)) ?_
  intro W base args ds gs before hval0 hW hcnd _
  have hval : ∀ (j : Nat) t v, Try.f7.params[j]? = some t → args[j]? = some v → Value.okWide Try.prog W .any base t v := hval0
  have hW' := hW
  obtain ⟨p, q, hA0, hV, rfl, hfz, hnd⟩ := hW
  have hA : DataW.TrodAll enc Try.prog W 0 (fun _ => true) true Try.f7.params.toList args.toList ds p := hA0
  rw [Try.params7] at hA hval
  obtain ⟨v0, vs0, d0, ds0, p0, q0, hargs, rfl, rfl, h0, r0⟩ := trodAll_cons hA
  obtain ⟨v1, vs1, d1, ds1, p1, q1, rfl, rfl, rfl, h1, r1⟩ := trodAll_cons r0
  obtain ⟨v2, vs2, d2, ds2, p2, q2, rfl, rfl, rfl, h2, r2⟩ := trodAll_cons r1
  obtain ⟨v3, vs3, d3, ds3, p3, q3, rfl, rfl, rfl, h3, r3⟩ := trodAll_cons r2
  obtain ⟨v4, vs4, d4, ds4, p4, q4, rfl, rfl, rfl, h4, r4⟩ := trodAll_cons r3
  obtain ⟨rfl, rfl, rfl⟩ := trodAll_nil r4
  obtain rfl : args = #[v0, v1, v2, v3, v4] := by cases args; simp_all
  obtain ⟨rfl, rfl⟩ := trodVars_none hV
  obtain ⟨cs_f, rfl, hz_f, hs_f⟩ := open_st (ts := [22, 23]) Try.underlying25 (by kernel_rfl) (by kernel_rfl) (by kernel_rfl) (hval 0 25 v0 rfl rfl) h0
  have hlt0 : ∀ x ∈ p0, x.block < W.heap.size := fun x hx => by simpa using hW'.lt x (by simp [hx])
  obtain ⟨x_q0, d_q0, p_q0, fu_q0, hx_q0, hk0_q0, ht_q0⟩ := hs_f 0 22 rfl
  have hkk_q0 : Value.okWide Try.prog W .any base 22 x_q0 := by unfold Value.okWide; rw [Try.underlying22]; exact hk0_q0
  obtain ⟨x_k, d_k, p_k, fu_k, hx_k, hk0_k, ht_k⟩ := hs_f 1 23 rfl
  have hkk_k : Value.okWide Try.prog W .any base 23 x_k := by unfold Value.okWide; rw [Try.underlying23]; exact hk0_k
  have hcs_f : cs_f = #[x_q0, x_k] := by
    refine Array.ext (by rw [hz_f]; rfl) fun i h1 h2 => ?_
    have hi : i < 2 := by simpa using h2
    rcases i with _ | _ | i
    · have := hx_q0; rw [Array.getElem?_eq_getElem h1] at this; exact Option.some.inj this
    · have := hx_k; rw [Array.getElem?_eq_getElem h1] at this; exact Option.some.inj this
    · omega
  subst hcs_f
  have htt_q0 : DataW.Trod enc Try.prog W 0 (fun _ => true) true 22 x_q0 d_q0 p_q0 := by obtain ⟨ao, len, cap, rfl⟩ := okWide_slice Try.underlying22 hkk_q0; exact ⟨fu_q0, ht_q0⟩
  obtain ⟨s_q0, q0, cap_q0, hk_q0, ha_q0, hs_q0, hn_q0, hc_q0, hv_q0, hm_q0, w_q0⟩ := Go.Vm2.open_recs (ks := [.int .u8, .int .i64]) Try.underlying22 Try.underlying46 (by kernel_rfl) (by simp) (by kernel_rfl) hkk_q0 htt_q0
  have htt_k : DataW.Trod enc Try.prog W 0 (fun _ => true) true 23 x_k d_k p_k := by obtain ⟨ao, len, cap, rfl⟩ := okWide_slice Try.underlying23 hkk_k; exact ⟨fu_k, ht_k⟩
  obtain ⟨s_k, k, cap_k, hk_k, ha_k, hs_k, hn_k, hc_k, hv_k, hm_k, w_k⟩ := Go.Vm2.open_recs (ks := [.int .u8, .int .u8, .int .i64]) Try.underlying23 Try.underlying48 (by kernel_rfl) (by simp) (by kernel_rfl) hkk_k htt_k
  obtain ⟨sb_s, rfl, rfl, rfl, m0_s⟩ := Go.ChangeMaps.open_string Try.underlying9 (hval 1 9 v1 rfl rfl) h1
  obtain ⟨s, rfl⟩ : ∃ a : List UInt8, sb_s = ⟨a.toArray⟩ := ⟨sb_s.data.toList, by cases sb_s; simp⟩
  obtain ⟨wh, rfl, rfl, rfl, w_wh⟩ := open_int Try.underlying5 (hval 2 5 v2 rfl rfl) h2
  obtain ⟨by0, rfl, rfl, rfl, w_by0⟩ := open_int Try.underlying41 (hval 3 41 v3 rfl rfl) h3
  obtain ⟨ot, rfl, rfl, rfl, w_ot⟩ := open_int Try.underlying5 (hval 4 5 v4 rfl rfl) h4
  clear hA0 hval0
  refine (walk W x_q0 s_q0 q0 cap_q0 hk_q0 ha_q0 hs_q0 hn_q0 hc_q0 hv_q0 hm_q0 w_q0 x_k s_k k cap_k hk_k ha_k hs_k hn_k hc_k hv_k hm_k w_k s (by simpa [ByteArray.size] using m0_s) wh w_wh by0 w_by0 ot w_ot).mono fun e W' ⟨he, hg⟩ => ?_
  subst he
  exact ⟨_, rfl, _, _, _, [], _, [], hW', trodAll_cons_mk (shut_bool Try.underlying4 _) trodAll_mk0, (trodAll_cons_mk (Below.trod laidOut (by kernel_rfl) (of_decide_eq_true (by kernel_rfl)) h0 hg hlt0) (trodAll_cons_mk (Go.ChangeMaps.shut_string Try.underlying9 m0_s) (trodAll_cons_mk (shut_int Try.underlying5 w_wh) (trodAll_cons_mk (shut_int Try.underlying41 w_by0) (trodAll_cons_mk (shut_int Try.underlying5 w_ot) trodAll_mk0))))), rfl, hg.frame _, fun h => by cases h⟩

theorem over : Rows.fontAdvancesRow.holds Try.pinned (OpenSpec.ofChange Rows.fontAdvancesSpec) :=
  OpenClaim.holds_of_wide 7 Try.f7 rfl rfl rfl rfl rfl rfl rfl ⟨rfl, rfl, rfl, rfl, rfl⟩ rfl rfl rfl rfl rfl (by kernel_rfl) Try.func7 (by kernel_rfl)
    (of_decide_eq_true (by kernel_rfl)) (by unfold Func.isWrapper; first | (rw [if_pos (by decide +kernel)]; kernel_rfl) | (rw [if_neg (by decide +kernel)]; exact ⟨rfl, rfl⟩))
    (fun os started H enc _ => lifted os started H enc)

/-- the statement -/
theorem proved : Rows.FontAdvancesSaid :=
  over
#print axioms proved
end Go.Proofs.Ytejlcpjbhnajbaa.fontAdvances
