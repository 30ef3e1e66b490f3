/-
  FloatsFurther: whatever the arguments, the law returns true, and its arguments read as before. No conditions.
-/
import Derived.Test.YtckdkhdkcihpjabRows
import Derived.Test.YtckdkhdkcihpjabVwOpen2
import Derived.Test.YtckdkhdkcihpjabVwRules6
import Derived.Test.YtckdkhdkcihpjabVmSym
import Derived.WalkKit
import Derived.ProofKit
import Derived.OpenShut
import Derived.Carry
import Derived.SizedLaws
namespace Go.Proofs.Ytckdkhdkcihpjab.floatsFurther
open Go.ChangeShapes Go.WideShapes Go.ChangeAt Go.RowKit
open Go.Vm (Facts Val Sound)
open Go.Vm2
set_option linter.unusedVariables false
set_option linter.unusedSectionVars false

theorem own : ownKnob Try.prog.godebug = none := by kernel_rfl
theorem laidOut : laidOutB Try.prog = true := by kernel_rfl
def ts : List Nat := [53, 55, 40, 27, 3, 90, 115]
def tt : Go.Vm2.TT := [
  (53, ⟨(.slice 55 5 40 [.int .i64, .int .i64, .int .i64, .int .i64, .int .i64]), false, 1, .nils, true⟩),
  (55, ⟨(.struct [⟨0, 1, false⟩, ⟨1, 1, false⟩, ⟨2, 1, false⟩, ⟨3, 1, false⟩, ⟨4, 1, false⟩]), true, 5, .agg [.int .i64 (0), .int .i64 (0), .int .i64 (0), .int .i64 (0), .int .i64 (0)], true⟩),
  (40, ⟨(.struct [⟨0, 1, false⟩, ⟨1, 1, false⟩]), true, 2, .agg [.int .i64 (0), .int .i64 (0)], true⟩),
  (27, ⟨(.int .i64), false, 1, .int .i64 (0), true⟩),
  (3, ⟨(.int .i64), false, 1, .int .i64 (0), true⟩),
  (90, ⟨(.struct [⟨0, 1, false⟩, ⟨1, 1, false⟩]), true, 2, .agg [.int .i64 (0), .int .i64 (0)], true⟩),
  (115, ⟨(.struct [⟨0, 5, true⟩]), true, 5, .agg [.int .i64 (0), .int .i64 (0), .int .i64 (0), .int .i64 (0), .int .i64 (0)], false⟩)]
theorem tt_mk : mkTT Try.prog ts = some tt := by kernel_rfl
theorem head (w : World) : Calls Try.prog 23 #[] w fun e w' => e = .returned (.bool true) ∧ Below w.heap.size w w' :=
  Go.Vm.head_run (by kernel_rfl) (by kernel_rfl) (n := 1000000) (by kernel_rfl) w
instance facts : Facts := ⟨[], [23], false⟩
instance val : Val := ⟨fun _ => 0⟩
instance sound : Sound := ⟨fun f hf => (List.not_mem_nil hf).elim⟩
theorem tt_ok : TTok Try.prog tt := ttok_mk tt_mk
def body (f : Func) : Code := match f.body with | some c => c | none => .skip
set_option maxRecDepth 100000
theorem wrap_nat (k : Nat) (h : k < 9223372036854775807) : IntKind.i64.wrap ((k : Int) + 1) = ((k + 1 : Nat) : Int) := by
  rw [IntKind.wrap_i64]; omega
theorem wrapS (n : Int) (h : -9000000000000000000 ≤ n ∧ n ≤ 9000000000000000000) : IntKind.i64.wrap n = n := by rw [IntKind.wrap_i64]; omega
abbrev Rows := List (List D)
theorem len_test (n : Int) (h : H) (K : V → H → Prop) (hK : K (.test (decide (0 ≤ n ∧ n ≤ 1000000))) h) : SemF Try.prog 51 [.int .i64 n] h K := by
  refine SemF.test ?_
  refine enter tt_ok Try.func51 (nt := 9) (cd := body Try.f51) rfl rfl rfl rfl ?_
  intro _; refine ⟨fun g => ?_, fun g => ?_⟩
  · have g := of_decide_eq_true (show decide (n ≥ 0) = true from g)
    intro _
    refine ⟨_, .inr rfl, ?_⟩
    have : decide (0 ≤ n ∧ n ≤ 1000000) = decide (n ≤ 1000000) := by
      by_cases e : n ≤ 1000000
      · rw [decide_eq_true e, decide_eq_true (show 0 ≤ n ∧ n ≤ 1000000 from ⟨by omega, e⟩)]
      · rw [decide_eq_false e, decide_eq_false (fun m => e m.2)]
    rw [← this]; exact hK
  · have g := of_decide_eq_false (show decide (n ≥ 0) = false from g)
    intro _
    refine ⟨false, .inl rfl, ?_⟩
    have : decide (0 ≤ n ∧ n ≤ 1000000) = false := decide_eq_false (fun m => by have := m.1; omega)
    rw [← this]; exact hK
theorem high_test (n : Int) (h : H) (K : V → H → Prop) (hK : K (.test (decide (0 ≤ n ∧ n ≤ 1000000000))) h) : SemF Try.prog 50 [.int .i64 n] h K := by
  refine SemF.test ?_
  refine enter tt_ok Try.func50 (nt := 9) (cd := body Try.f50) rfl rfl rfl rfl ?_
  intro _; refine ⟨fun g => ?_, fun g => ?_⟩
  · have g := of_decide_eq_true (show decide (n ≥ 0) = true from g)
    intro _
    refine ⟨_, .inr rfl, ?_⟩
    have : decide (0 ≤ n ∧ n ≤ 1000000000) = decide (n ≤ 1000000000) := by
      by_cases e : n ≤ 1000000000
      · rw [decide_eq_true e, decide_eq_true (show 0 ≤ n ∧ n ≤ 1000000000 from ⟨by omega, e⟩)]
      · rw [decide_eq_false e, decide_eq_false (fun m => e m.2)]
    rw [← this]; exact hK
  · have g := of_decide_eq_false (show decide (n ≥ 0) = false from g)
    intro _
    refine ⟨false, .inl rfl, ?_⟩
    have : decide (0 ≤ n ∧ n ≤ 1000000000) = false := decide_eq_false (fun m => by have := m.1; omega)
    rw [← this]; exact hK
theorem rlen_test (n : Int) (h : H) (K : V → H → Prop) (hK : K (.test (decide (0 ≤ n ∧ n ≤ 1000000))) h) : SemF Try.prog 48 [.int .i64 n] h K := by
  refine SemF.test ?_
  refine enter tt_ok Try.func48 (nt := 9) (cd := body Try.f48) rfl rfl rfl rfl ?_
  intro _; refine ⟨fun g => ?_, fun g => ?_⟩
  · have g := of_decide_eq_true (show decide (n ≥ 0) = true from g)
    intro _
    refine ⟨_, .inr rfl, ?_⟩
    have : decide (0 ≤ n ∧ n ≤ 1000000) = decide (n ≤ 1000000) := by
      by_cases e : n ≤ 1000000
      · rw [decide_eq_true e, decide_eq_true (show 0 ≤ n ∧ n ≤ 1000000 from ⟨by omega, e⟩)]
      · rw [decide_eq_false e, decide_eq_false (fun m => e m.2)]
    rw [← this]; exact hK
  · have g := of_decide_eq_false (show decide (n ≥ 0) = false from g)
    intro _
    refine ⟨false, .inl rfl, ?_⟩
    have : decide (0 ≤ n ∧ n ≤ 1000000) = false := decide_eq_false (fun m => by have := m.1; omega)
    rw [← this]; exact hK
theorem rhigh_test (n : Int) (h : H) (K : V → H → Prop) (hK : K (.test (decide (0 ≤ n ∧ n ≤ 1000000000))) h) : SemF Try.prog 49 [.int .i64 n] h K := by
  refine SemF.test ?_
  refine enter tt_ok Try.func49 (nt := 9) (cd := body Try.f49) rfl rfl rfl rfl ?_
  intro _; refine ⟨fun g => ?_, fun g => ?_⟩
  · have g := of_decide_eq_true (show decide (n ≥ 0) = true from g)
    intro _
    refine ⟨_, .inr rfl, ?_⟩
    have : decide (0 ≤ n ∧ n ≤ 1000000000) = decide (n ≤ 1000000000) := by
      by_cases e : n ≤ 1000000000
      · rw [decide_eq_true e, decide_eq_true (show 0 ≤ n ∧ n ≤ 1000000000 from ⟨by omega, e⟩)]
      · rw [decide_eq_false e, decide_eq_false (fun m => e m.2)]
    rw [← this]; exact hK
  · have g := of_decide_eq_false (show decide (n ≥ 0) = false from g)
    intro _
    refine ⟨false, .inl rfl, ?_⟩
    have : decide (0 ≤ n ∧ n ≤ 1000000000) = false := decide_eq_false (fun m => by have := m.1; omega)
    rw [← this]; exact hK
def sd (l : Rows) (i : Nat) : Int := ((l.getD i []).getD 0 (D.n 0)).int
def fx (l : Rows) (i : Nat) : Int := ((l.getD i []).getD 1 (D.n 0)).int
def fy (l : Rows) (i : Nat) : Int := ((l.getD i []).getD 2 (D.n 0)).int
def fw (l : Rows) (i : Nat) : Int := ((l.getD i []).getD 3 (D.n 0)).int
def fh (l : Rows) (i : Nat) : Int := ((l.getD i []).getD 4 (D.n 0)).int
abbrev K5 : List CK := [.int .i64, .int .i64, .int .i64, .int .i64, .int .i64]
def Fl (l : Rows) (i : Nat) : Prop := (sd l i = 1 ∨ sd l i = 2) ∧ (0 ≤ fx l i ∧ fx l i ≤ 1000000) ∧ (0 ≤ fw l i ∧ fw l i ≤ 1000000) ∧ (0 ≤ fh l i ∧ fh l i ≤ 1000000) ∧ (0 ≤ fy l i ∧ fy l i ≤ 1000000000)
def Vd (l : Rows) (W : Int) : Prop := (l.length ≤ 200 ∧ 0 ≤ W ∧ W ≤ 1000000) ∧ ∀ i, i < l.length → Fl l i
instance decFl (l : Rows) (i : Nat) : Decidable (Fl l i) := inferInstanceAs (Decidable (_ ∧ _))
instance decVd (l : Rows) (W : Int) : Decidable (Vd l W) := inferInstanceAs (Decidable (_ ∧ _))
abbrev VIdx (l : Rows) := { k : Nat // k ≤ l.length ∧ ∀ i, i < k → Fl l i }
theorem vidx_succ {l : Rows} {k : Nat} (hm : ∀ i, i < k → Fl l i) (h : Fl l k) : ∀ i, i < k + 1 → Fl l i := fun i hi => by
  by_cases e : i = k
  · subst e; exact h
  · exact hm i (by omega)
theorem valid_ok (l : Rows) (W : Int) (hl : l.length ≤ 9223372036854775807) : SemF Try.prog 47 [.slc 0 5 0 l.length, .int .i64 W] ⟨1, 1, [(0, .arr [.int .i64, .int .i64, .int .i64, .int .i64, .int .i64] .rd (.recs l))]⟩ (fun v _ => v = .test (decide (Vd l W)) ∧ nameless v = true) := by
  refine SemF.test ?_
  refine enter tt_ok Try.func47 (nt := 54) (cd := body Try.f47) rfl rfl rfl rfl ?_
  intro _; refine ⟨fun g => ?_, fun g => ?_⟩
  · have g := of_decide_eq_true (show decide ((l.length : Int) > 200) = true from g)
    intro _
    exact ⟨false, .inl rfl, by rw [decide_eq_false (fun h : Vd l W => by have := h.1.1; omega)], rfl⟩
  have g1 := of_decide_eq_false (show decide ((l.length : Int) > 200) = false from g)
  intro _
  refine len_test _ _ _ ?_
  intro _; refine ⟨fun g => ?_, fun g => ?_⟩
  · have g : (!decide (0 ≤ W ∧ W ≤ 1000000)) = true := g
    rw [Bool.not_eq_true'] at g
    have g := of_decide_eq_false g
    intro _
    exact ⟨false, .inl rfl, by rw [decide_eq_false (fun h : Vd l W => g h.1.2)], rfl⟩
  have g : (!decide (0 ≤ W ∧ W ≤ 1000000)) = false := g
  rw [Bool.not_eq_false'] at g
  have hW := of_decide_eq_true g
  intro _
  refine loop2 tt_ok [17] [] 1 (fun k : VIdx l => [(17, .int .i64 (k : Nat))]) (fun _ => []) (fun k => l.length - k) ⟨0, by omega, fun i h => by omega⟩ ?_
  intro _
  refine ⟨⟨th [] 1, rfl, rfl, rfl, rfl, rfl, rfl, ?_, ?_⟩, ?_⟩
  · (repeat' first | exact trivial | exact rfl | refine And.intro ?_ ?_)
  · (repeat' first | exact trivial | exact rfl | refine And.intro ?_ ?_)
  intro ⟨k, hk, hmk⟩
  have z : 0 + k = k := Nat.zero_add k
  intro _; refine ⟨fun g => ?_, fun g => ?_⟩
  rotate_left
  · have hkl := of_decide_eq_false (show decide ((k : Int) < (l.length : Int)) = false from g)
    have hkl : k = l.length := by omega
    subst hkl
    intro _
    exact ⟨true, .inl rfl, by rw [decide_eq_true (show Vd l W from ⟨⟨by omega, hW⟩, hmk⟩)], rfl⟩
  have hkl := of_decide_eq_true (show decide ((k : Int) < (l.length : Int)) = true from g)
  have bad : ¬ Fl l k → decide (Vd l W) = false := fun h => decide_eq_false (fun hv => h (hv.2 k (by omega)))
  intro _; refine ⟨show 0 ≤ (k : Int) ∧ (k : Int) < (l.length : Int) by omega, ?_⟩
  intro _; refine ⟨show 0 + (k : Int).toNat < l.length by omega, ?_⟩
  intro _; refine ⟨fun g => ?_, fun g => ?_⟩
  · have g : (sd l (0 + k) != 1) = true := g
    rw [z] at g
    have s1 : sd l k ≠ 1 := by simpa using g
    intro _; refine ⟨fun g => ?_, fun g => ?_⟩
    · have g : (sd l (0 + k) != 2) = true := g
      rw [z] at g
      have s2 : sd l k ≠ 2 := by simpa using g
      intro _
      exact ⟨false, .inl rfl, by rw [bad (fun h => h.1.elim s1 s2)], rfl⟩
    have g : (sd l (0 + k) != 2) = false := g
    rw [z] at g
    have s2 : sd l k = 2 := by simpa using g
    intro _
    refine len_test _ _ _ ?_
    intro _; refine ⟨fun g => ?_, fun g => ?_⟩
    · have g : (!decide (0 ≤ fx l (0 + k) ∧ fx l (0 + k) ≤ 1000000)) = true := g
      rw [z, Bool.not_eq_true'] at g
      have g := of_decide_eq_false g
      intro _
      exact ⟨false, .inl rfl, by rw [bad (fun h => g h.2.1)], rfl⟩
    have g : (!decide (0 ≤ fx l (0 + k) ∧ fx l (0 + k) ≤ 1000000)) = false := g
    rw [z, Bool.not_eq_false'] at g
    have c0 := of_decide_eq_true g
    intro _
    refine len_test _ _ _ ?_
    intro _; refine ⟨fun g => ?_, fun g => ?_⟩
    · have g : (!decide (0 ≤ fw l (0 + k) ∧ fw l (0 + k) ≤ 1000000)) = true := g
      rw [z, Bool.not_eq_true'] at g
      have g := of_decide_eq_false g
      intro _
      exact ⟨false, .inl rfl, by rw [bad (fun h => g h.2.2.1)], rfl⟩
    have g : (!decide (0 ≤ fw l (0 + k) ∧ fw l (0 + k) ≤ 1000000)) = false := g
    rw [z, Bool.not_eq_false'] at g
    have c1 := of_decide_eq_true g
    intro _
    refine len_test _ _ _ ?_
    intro _; refine ⟨fun g => ?_, fun g => ?_⟩
    · have g : (!decide (0 ≤ fh l (0 + k) ∧ fh l (0 + k) ≤ 1000000)) = true := g
      rw [z, Bool.not_eq_true'] at g
      have g := of_decide_eq_false g
      intro _
      exact ⟨false, .inl rfl, by rw [bad (fun h => g h.2.2.2.1)], rfl⟩
    have g : (!decide (0 ≤ fh l (0 + k) ∧ fh l (0 + k) ≤ 1000000)) = false := g
    rw [z, Bool.not_eq_false'] at g
    have c2 := of_decide_eq_true g
    intro _
    refine high_test _ _ _ ?_
    intro _; refine ⟨fun g => ?_, fun g => ?_⟩
    · have g : (!decide (0 ≤ fy l (0 + k) ∧ fy l (0 + k) ≤ 1000000000)) = true := g
      rw [z, Bool.not_eq_true'] at g
      have g := of_decide_eq_false g
      intro _
      exact ⟨false, .inl rfl, by rw [bad (fun h => g h.2.2.2.2)], rfl⟩
    have g : (!decide (0 ≤ fy l (0 + k) ∧ fy l (0 + k) ≤ 1000000000)) = false := g
    rw [z, Bool.not_eq_false'] at g
    have c3 := of_decide_eq_true g
    refine ⟨⟨k + 1, by omega, vidx_succ hmk ⟨.inr s2, c0, c1, c2, c3⟩⟩, by simp; omega, th [] 1, rfl, rfl, rfl, rfl, rfl, rfl, ?_, ?_⟩
    · (repeat' first | exact trivial | exact rfl | refine And.intro ?_ ?_)
      exact (wrap_nat k (by omega)).symm
    · (repeat' first | exact trivial | exact rfl | refine And.intro ?_ ?_)
  · have g : (sd l (0 + k) != 1) = false := g
    rw [z] at g
    have s1 : sd l k = 1 := by simpa using g
    intro _
    refine len_test _ _ _ ?_
    intro _; refine ⟨fun g => ?_, fun g => ?_⟩
    · have g : (!decide (0 ≤ fx l (0 + k) ∧ fx l (0 + k) ≤ 1000000)) = true := g
      rw [z, Bool.not_eq_true'] at g
      have g := of_decide_eq_false g
      intro _
      exact ⟨false, .inl rfl, by rw [bad (fun h => g h.2.1)], rfl⟩
    have g : (!decide (0 ≤ fx l (0 + k) ∧ fx l (0 + k) ≤ 1000000)) = false := g
    rw [z, Bool.not_eq_false'] at g
    have c0 := of_decide_eq_true g
    intro _
    refine len_test _ _ _ ?_
    intro _; refine ⟨fun g => ?_, fun g => ?_⟩
    · have g : (!decide (0 ≤ fw l (0 + k) ∧ fw l (0 + k) ≤ 1000000)) = true := g
      rw [z, Bool.not_eq_true'] at g
      have g := of_decide_eq_false g
      intro _
      exact ⟨false, .inl rfl, by rw [bad (fun h => g h.2.2.1)], rfl⟩
    have g : (!decide (0 ≤ fw l (0 + k) ∧ fw l (0 + k) ≤ 1000000)) = false := g
    rw [z, Bool.not_eq_false'] at g
    have c1 := of_decide_eq_true g
    intro _
    refine len_test _ _ _ ?_
    intro _; refine ⟨fun g => ?_, fun g => ?_⟩
    · have g : (!decide (0 ≤ fh l (0 + k) ∧ fh l (0 + k) ≤ 1000000)) = true := g
      rw [z, Bool.not_eq_true'] at g
      have g := of_decide_eq_false g
      intro _
      exact ⟨false, .inl rfl, by rw [bad (fun h => g h.2.2.2.1)], rfl⟩
    have g : (!decide (0 ≤ fh l (0 + k) ∧ fh l (0 + k) ≤ 1000000)) = false := g
    rw [z, Bool.not_eq_false'] at g
    have c2 := of_decide_eq_true g
    intro _
    refine high_test _ _ _ ?_
    intro _; refine ⟨fun g => ?_, fun g => ?_⟩
    · have g : (!decide (0 ≤ fy l (0 + k) ∧ fy l (0 + k) ≤ 1000000000)) = true := g
      rw [z, Bool.not_eq_true'] at g
      have g := of_decide_eq_false g
      intro _
      exact ⟨false, .inl rfl, by rw [bad (fun h => g h.2.2.2.2)], rfl⟩
    have g : (!decide (0 ≤ fy l (0 + k) ∧ fy l (0 + k) ≤ 1000000000)) = false := g
    rw [z, Bool.not_eq_false'] at g
    have c3 := of_decide_eq_true g
    refine ⟨⟨k + 1, by omega, vidx_succ hmk ⟨.inl s1, c0, c1, c2, c3⟩⟩, by simp; omega, th [] 1, rfl, rfl, rfl, rfl, rfl, rfl, ?_, ?_⟩
    · (repeat' first | exact trivial | exact rfl | refine And.intro ?_ ?_)
      exact (wrap_nat k (by omega)).symm
    · (repeat' first | exact trivial | exact rfl | refine And.intro ?_ ?_)
theorem rvalid_ok (l : Rows) (W : Int) (hl : l.length ≤ 9223372036854775807) : SemF Try.prog 24 [.slc 0 5 0 l.length, .int .i64 W] ⟨1, 1, [(0, .arr [.int .i64, .int .i64, .int .i64, .int .i64, .int .i64] .rd (.recs l))]⟩ (fun v _ => v = .test (decide (Vd l W)) ∧ nameless v = true) := by
  refine SemF.test ?_
  refine enter tt_ok Try.func24 (nt := 80) (cd := body Try.f24) rfl rfl rfl rfl ?_
  intro _
  refine rlen_test _ _ _ ?_
  intro _; refine ⟨fun g => ?_, fun g => ?_⟩
  · have g : (!decide (0 ≤ W ∧ W ≤ 1000000)) = true := g
    rw [Bool.not_eq_true'] at g
    have g := of_decide_eq_false g
    intro _
    exact ⟨false, .inl rfl, by rw [decide_eq_false (fun h : Vd l W => g h.1.2)], rfl⟩
  have g : (!decide (0 ≤ W ∧ W ≤ 1000000)) = false := g
  rw [Bool.not_eq_false'] at g
  have hW := of_decide_eq_true g
  intro _; refine ⟨fun g => ?_, fun g => ?_⟩
  · have g := of_decide_eq_true (show decide ((l.length : Int) > 200) = true from g)
    intro _
    exact ⟨false, .inl rfl, by rw [decide_eq_false (fun h : Vd l W => by have := h.1.1; omega)], rfl⟩
  have g1 := of_decide_eq_false (show decide ((l.length : Int) > 200) = false from g)
  intro _
  refine loop2 tt_ok [6] [] 1 (fun k : VIdx l => [(6, .int .i64 (k : Nat))]) (fun _ => []) (fun k => l.length - k) ⟨0, by omega, fun i h => by omega⟩ ?_
  intro _
  refine ⟨⟨th [] 1, rfl, rfl, rfl, rfl, rfl, rfl, ?_, ?_⟩, ?_⟩
  · (repeat' first | exact trivial | exact rfl | refine And.intro ?_ ?_)
  · (repeat' first | exact trivial | exact rfl | refine And.intro ?_ ?_)
  intro ⟨k, hk, hmk⟩
  have z : 0 + k = k := Nat.zero_add k
  intro _; refine ⟨fun g => ?_, fun g => ?_⟩
  rotate_left
  · have hkl := of_decide_eq_false (show decide ((k : Int) < (l.length : Int)) = false from g)
    have hkl : k = l.length := by omega
    subst hkl
    intro _
    exact ⟨true, .inl rfl, by rw [decide_eq_true (show Vd l W from ⟨⟨by omega, hW⟩, hmk⟩)], rfl⟩
  have hkl := of_decide_eq_true (show decide ((k : Int) < (l.length : Int)) = true from g)
  have bad : ¬ Fl l k → decide (Vd l W) = false := fun h => decide_eq_false (fun hv => h (hv.2 k (by omega)))
  have i1 : 0 ≤ (k : Int) ∧ (k : Int) < (l.length : Int) := by omega
  have i2 : 0 + (k : Int).toNat < l.length := by omega
  intro _; refine ⟨i1, ?_⟩
  intro _; refine ⟨i2, ?_⟩
  intro _
  refine rlen_test _ _ _ ?_
  intro _; refine ⟨i1, ?_⟩
  intro _; refine ⟨i2, ?_⟩
  intro _
  refine rhigh_test _ _ _ ?_
  intro _; refine ⟨i1, ?_⟩
  intro _; refine ⟨i2, ?_⟩
  intro _
  refine rlen_test _ _ _ ?_
  intro _; refine ⟨i1, ?_⟩
  intro _; refine ⟨i2, ?_⟩
  intro _
  refine rlen_test _ _ _ ?_
  intro _; refine ⟨fun g => ?_, fun g => ?_⟩
  · have g : (!decide (0 ≤ fx l (0 + k) ∧ fx l (0 + k) ≤ 1000000)) = true := g
    rw [z, Bool.not_eq_true'] at g
    have g := of_decide_eq_false g
    intro _
    exact ⟨false, .inl rfl, by rw [bad (fun h => g h.2.1)], rfl⟩
  have g : (!decide (0 ≤ fx l (0 + k) ∧ fx l (0 + k) ≤ 1000000)) = false := g
  rw [z, Bool.not_eq_false'] at g
  have c0 := of_decide_eq_true g
  intro _; refine ⟨fun g => ?_, fun g => ?_⟩
  · have g : (!decide (0 ≤ fy l (0 + k) ∧ fy l (0 + k) ≤ 1000000000)) = true := g
    rw [z, Bool.not_eq_true'] at g
    have g := of_decide_eq_false g
    intro _
    exact ⟨false, .inl rfl, by rw [bad (fun h => g h.2.2.2.2)], rfl⟩
  have g : (!decide (0 ≤ fy l (0 + k) ∧ fy l (0 + k) ≤ 1000000000)) = false := g
  rw [z, Bool.not_eq_false'] at g
  have c1 := of_decide_eq_true g
  intro _; refine ⟨fun g => ?_, fun g => ?_⟩
  · have g : (!decide (0 ≤ fw l (0 + k) ∧ fw l (0 + k) ≤ 1000000)) = true := g
    rw [z, Bool.not_eq_true'] at g
    have g := of_decide_eq_false g
    intro _
    exact ⟨false, .inl rfl, by rw [bad (fun h => g h.2.2.1)], rfl⟩
  have g : (!decide (0 ≤ fw l (0 + k) ∧ fw l (0 + k) ≤ 1000000)) = false := g
  rw [z, Bool.not_eq_false'] at g
  have c2 := of_decide_eq_true g
  intro _; refine ⟨fun g => ?_, fun g => ?_⟩
  · have g : (!decide (0 ≤ fh l (0 + k) ∧ fh l (0 + k) ≤ 1000000)) = true := g
    rw [z, Bool.not_eq_true'] at g
    have g := of_decide_eq_false g
    intro _
    exact ⟨false, .inl rfl, by rw [bad (fun h => g h.2.2.2.1)], rfl⟩
  have g : (!decide (0 ≤ fh l (0 + k) ∧ fh l (0 + k) ≤ 1000000)) = false := g
  rw [z, Bool.not_eq_false'] at g
  have c3 := of_decide_eq_true g
  intro _; refine ⟨i1, ?_⟩
  intro _; refine ⟨i2, ?_⟩
  intro _; refine ⟨fun g => ?_, fun g => ?_⟩
  · have g : decide (sd l (0 + k) < 1) = true := g
    rw [z] at g
    have g := of_decide_eq_true g
    intro _
    exact ⟨false, .inl rfl, by rw [bad (fun h => by have := h.1; omega)], rfl⟩
  have g : decide (sd l (0 + k) < 1) = false := g
  rw [z] at g
  have s1 := of_decide_eq_false g
  intro _; refine ⟨i1, ?_⟩
  intro _; refine ⟨i2, ?_⟩
  intro _; refine ⟨fun g => ?_, fun g => ?_⟩
  · have g : decide (sd l (0 + k) > 2) = true := g
    rw [z] at g
    have g := of_decide_eq_true g
    intro _
    exact ⟨false, .inl rfl, by rw [bad (fun h => by have := h.1; omega)], rfl⟩
  have g : decide (sd l (0 + k) > 2) = false := g
  rw [z] at g
  have s2 := of_decide_eq_false g
  refine ⟨⟨k + 1, by omega, vidx_succ hmk ⟨by omega, c0, c2, c3, c1⟩⟩, by simp; omega, th [] 1, rfl, rfl, rfl, rfl, rfl, rfl, ?_, ?_⟩
  · (repeat' first | exact trivial | exact rfl | refine And.intro ?_ ?_)
    exact (wrap_nat k (by omega)).symm
  · (repeat' first | exact trivial | exact rfl | refine And.intro ?_ ?_)
theorem bottom_ok (a b c d e : Int) : SemF Try.prog 72 [.agg [.int .i64 a, .int .i64 b, .int .i64 c, .int .i64 d, .int .i64 e]] ⟨0, 0, []⟩ (fun v _ => v = .int .i64 (IntKind.i64.wrap (c + e)) ∧ nameless v = true) := by
  refine enter tt_ok Try.func72 (nt := 10) (cd := body Try.f72) rfl rfl rfl rfl ?_
  intro _
  exact ⟨rfl, rfl⟩
theorem far_ok (a b c d e : Int) : SemF Try.prog 74 [.agg [.int .i64 a, .int .i64 b, .int .i64 c, .int .i64 d, .int .i64 e]] ⟨0, 0, []⟩ (fun v _ => v = .int .i64 (IntKind.i64.wrap (b + d)) ∧ nameless v = true) := by
  refine enter tt_ok Try.func74 (nt := 10) (cd := body Try.f74) rfl rfl rfl rfl ?_
  intro _
  exact ⟨rfl, rfl⟩
theorem has_ok (y h a b c d e : Int) : SemF Try.prog 73 [.agg [.int .i64 y, .int .i64 h], .agg [.int .i64 a, .int .i64 b, .int .i64 c, .int .i64 d, .int .i64 e]] ⟨0, 0, []⟩ (fun v _ => v = .test (decide (e > 0 ∧ c < IntKind.i64.wrap (y + max h 1) ∧ IntKind.i64.wrap (c + e) > y)) ∧ nameless v = true) := by
  refine SemF.test ?_
  refine enter tt_ok Try.func73 (nt := 27) (cd := body Try.f73) rfl rfl rfl rfl ?_
  intro _; refine ⟨fun g => ?_, fun g => ?_⟩
  rotate_left
  · have g := of_decide_eq_false (show decide (e > 0) = false from g)
    intro _; refine ⟨by kernel_rfl, ?_⟩
    intro _
    exact ⟨false, .inl rfl, by rw [decide_eq_false (fun h => g h.1)], rfl⟩
  have g1 := of_decide_eq_true (show decide (e > 0) = true from g)
  intro _; refine ⟨fun g => ?_, fun g => ?_⟩
  rotate_left
  · have g := of_decide_eq_false (show decide (c < IntKind.i64.wrap (y + max h 1)) = false from g)
    intro _; refine ⟨by kernel_rfl, ?_⟩
    intro _
    exact ⟨false, .inl rfl, by rw [decide_eq_false (fun h => g h.2.1)], rfl⟩
  have g2 := of_decide_eq_true (show decide (c < IntKind.i64.wrap (y + max h 1)) = true from g)
  intro _
  refine Or.inl ?_
  intro _
  refine call_pure [] (bottom_ok a b c d e) rfl rfl rfl ?_ ?_ ?_
  · (repeat' first | exact trivial | exact rfl | refine And.intro ?_ ?_)
  · (repeat' first | exact trivial | exact rfl | refine And.intro ?_ ?_)
  intro v hv _
  subst hv
  intro _; refine ⟨by kernel_rfl, ?_⟩
  intro _
  refine ⟨_, .inr rfl, ?_, rfl⟩
  by_cases e : IntKind.i64.wrap (c + e) > y
  · rw [decide_eq_true e, decide_eq_true ⟨g1, g2, e⟩]
  · rw [decide_eq_false e, decide_eq_false (fun h => e h.2.2)]
def hs (l : Rows) (y h : Int) (i : Nat) : Bool := decide (fh l i > 0 ∧ fy l i < y + max h 1 ∧ fy l i + fh l i > y)
def Lo (l : Rows) (y h : Int) : Nat → Int
  | 0 => 0
  | k + 1 => if hs l y h k = true ∧ sd l k = 1 then max (Lo l y h k) (fx l k + fw l k) else Lo l y h k
def Hi (l : Rows) (W y h : Int) : Nat → Int
  | 0 => W
  | k + 1 => if hs l y h k = true ∧ sd l k ≠ 1 then min (Hi l W y h k) (fx l k) else Hi l W y h k
def Fr (l : Rows) (y h : Int) : Nat → Bool
  | 0 => true
  | k + 1 => !hs l y h k && Fr l y h k
theorem room_ok (l : Rows) (W y h : Int) (hl : l.length ≤ 9223372036854775807) (hV : Vd l W) (hy : 0 ≤ y ∧ y ≤ 1000000000) (hh : 0 ≤ h ∧ h ≤ 1000000) : SemF Try.prog 52 [.slc 0 5 0 l.length, .int .i64 W, .agg [.int .i64 y, .int .i64 h]] ⟨1, 1, [(0, .arr [.int .i64, .int .i64, .int .i64, .int .i64, .int .i64] .rd (.recs l))]⟩ (fun v _ => v = .tup [.agg [.int .i64 (Lo l y h l.length), .int .i64 (max (Hi l W y h l.length) (Lo l y h l.length))], .bool (Fr l y h l.length)] ∧ nameless v = true) := by
  obtain ⟨⟨h200, hW⟩, hF⟩ := hV
  refine enter tt_ok Try.func52 (nt := 52) (cd := body Try.f52) rfl rfl rfl rfl ?_
  intro _
  refine loop2 tt_ok [19, 10] [3] 4 (fun k : { k : Nat // k ≤ l.length } => [(19, .int .i64 (k : Nat)), (10, .bool (Fr l y h k))]) (fun k => [(3, .cells [.int .i64 (Lo l y h k), .int .i64 (Hi l W y h k)])]) (fun k => l.length - k) ⟨0, by omega⟩ ?_
  intro _
  refine ⟨⟨th [] 4, rfl, rfl, rfl, rfl, rfl, rfl, ?_, ?_⟩, ?_⟩
  · (repeat' first | exact trivial | exact rfl | refine And.intro ?_ ?_)
  · (repeat' first | exact trivial | exact rfl | refine And.intro ?_ ?_)
  intro ⟨k, hk⟩
  have z : 0 + k = k := Nat.zero_add k
  intro _; refine ⟨fun g => ?_, fun g => ?_⟩
  rotate_left
  · have hkl := of_decide_eq_false (show decide ((k : Int) < (l.length : Int)) = false from g)
    have hkl : k = l.length := by omega
    subst hkl
    intro _
    exact ⟨rfl, rfl⟩
  have hkl := of_decide_eq_true (show decide ((k : Int) < (l.length : Int)) = true from g)
  intro _; refine ⟨show 0 ≤ (k : Int) ∧ (k : Int) < (l.length : Int) by omega, ?_⟩
  intro _; refine ⟨show 0 + (k : Int).toNat < l.length by omega, ?_⟩
  obtain ⟨f0, f1, f2, f3, f4⟩ := hF k (by omega)
  have eh : (decide (fh l (0 + k) > 0 ∧ fy l (0 + k) < IntKind.i64.wrap (y + max h 1) ∧ IntKind.i64.wrap (fy l (0 + k) + fh l (0 + k)) > y)) = hs l y h k := by
    rw [z, wrapS _ ⟨by omega, by omega⟩, wrapS _ ⟨by omega, by omega⟩]; rfl
  have ek := (wrap_nat k (by omega)).symm
  intro _
  refine call_pure [] (has_ok y h (sd l (0 + k)) (fx l (0 + k)) (fy l (0 + k)) (fw l (0 + k)) (fh l (0 + k))) rfl rfl rfl ?_ ?_ ?_
  · (repeat' first | exact trivial | exact rfl | refine And.intro ?_ ?_)
  · (repeat' first | exact trivial | exact rfl | refine And.intro ?_ ?_)
  intro v hv _
  subst hv
  intro _; refine ⟨fun g => ?_, fun g => ?_⟩
  · have g : (!(decide (fh l (0 + k) > 0 ∧ fy l (0 + k) < IntKind.i64.wrap (y + max h 1) ∧ IntKind.i64.wrap (fy l (0 + k) + fh l (0 + k)) > y))) = true := g
    rw [eh, Bool.not_eq_true'] at g
    refine ⟨⟨k + 1, by omega⟩, by simp; omega, th [] 4, rfl, rfl, rfl, rfl, rfl, rfl, ?_, ?_⟩
    · (repeat' first | exact trivial | exact rfl | refine And.intro ?_ ?_)
      · exact ek
      · show (!hs l y h k && Fr l y h k) = Fr l y h k
        rw [g]; rfl
    · (repeat' first | exact trivial | exact rfl | refine And.intro ?_ ?_)
      · show Lo l y h (k + 1) = Lo l y h k
        show (if hs l y h k = true ∧ sd l k = 1 then max (Lo l y h k) (fx l k + fw l k) else Lo l y h k) = _; rw [if_neg (by rw [g]; simp)]
      · show Hi l W y h (k + 1) = Hi l W y h k
        show (if hs l y h k = true ∧ sd l k ≠ 1 then min (Hi l W y h k) (fx l k) else Hi l W y h k) = _; rw [if_neg (by rw [g]; simp)]
  have g : (!(decide (fh l (0 + k) > 0 ∧ fy l (0 + k) < IntKind.i64.wrap (y + max h 1) ∧ IntKind.i64.wrap (fy l (0 + k) + fh l (0 + k)) > y))) = false := g
  rw [eh, Bool.not_eq_false'] at g
  have hh1 := g
  have eF : IntKind.i64.wrap (fx l (0 + k) + fw l (0 + k)) = fx l k + fw l k := by rw [z]; exact wrapS _ ⟨by omega, by omega⟩
  intro _; refine ⟨fun g => ?_, fun g => ?_⟩
  · have g : (sd l (0 + k) == 1) = true := g
    rw [z] at g
    have s1 : sd l k = 1 := by simpa using g
    intro _
    refine Or.inl ?_
    intro _
    refine call_pure [] (far_ok (sd l (0 + k)) (fx l (0 + k)) (fy l (0 + k)) (fw l (0 + k)) (fh l (0 + k))) rfl rfl rfl ?_ ?_ ?_
    · (repeat' first | exact trivial | exact rfl | refine And.intro ?_ ?_)
    · (repeat' first | exact trivial | exact rfl | refine And.intro ?_ ?_)
    intro v hv _
    subst hv
    intro _; refine ⟨by kernel_rfl, ?_⟩
    refine ⟨⟨k + 1, by omega⟩, by simp; omega, th [] 4, rfl, rfl, rfl, rfl, rfl, rfl, ?_, ?_⟩
    · (repeat' first | exact trivial | exact rfl | refine And.intro ?_ ?_)
      · exact ek
      · show (!hs l y h k && Fr l y h k) = false
        rw [hh1]; rfl
    · (repeat' first | exact trivial | exact rfl | refine And.intro ?_ ?_)
      · show (if hs l y h k = true ∧ sd l k = 1 then max (Lo l y h k) (fx l k + fw l k) else Lo l y h k) = max (Lo l y h k) (IntKind.i64.wrap (fx l (0 + k) + fw l (0 + k)))
        rw [if_pos ⟨hh1, s1⟩, eF]
      · show (if hs l y h k = true ∧ sd l k ≠ 1 then min (Hi l W y h k) (fx l k) else Hi l W y h k) = _; rw [if_neg (fun h => h.2 s1)]
  · have g : (sd l (0 + k) == 1) = false := g
    rw [z] at g
    have s1 : sd l k ≠ 1 := by simpa using g
    refine ⟨⟨k + 1, by omega⟩, by simp; omega, th [] 4, rfl, rfl, rfl, rfl, rfl, rfl, ?_, ?_⟩
    · (repeat' first | exact trivial | exact rfl | refine And.intro ?_ ?_)
      · exact ek
      · show (!hs l y h k && Fr l y h k) = false
        rw [hh1]; rfl
    · (repeat' first | exact trivial | exact rfl | refine And.intro ?_ ?_)
      · show (if hs l y h k = true ∧ sd l k = 1 then max (Lo l y h k) (fx l k + fw l k) else Lo l y h k) = _; rw [if_neg (fun h => s1 h.2)]
      · show (if hs l y h k = true ∧ sd l k ≠ 1 then min (Hi l W y h k) (fx l k) else Hi l W y h k) = min (Hi l W y h k) (fx l (0 + k)); rw [if_pos ⟨hh1, s1⟩, z]
def Rm (l : Rows) (W y h : Int) : Prop := Vd l W ∧ (0 ≤ y ∧ y ≤ 1000000000) ∧ (0 ≤ h ∧ h ≤ 1000000)
instance decRm (l : Rows) (W y h : Int) : Decidable (Rm l W y h) := inferInstanceAs (Decidable (_ ∧ _))
def RQ (l : Rows) (W y h : Int) : V := if Rm l W y h then .tup [.agg [.int .i64 (Lo l y h l.length), .int .i64 (max (Hi l W y h l.length) (Lo l y h l.length))], .int .i64 0] else .tup [.agg [.int .i64 0, .int .i64 0], .int .i64 1]
theorem Room_ok (l : Rows) (W y h : Int) (hl : l.length ≤ 9223372036854775807) : SemF Try.prog 25 [.slc 0 5 0 l.length, .int .i64 W, .int .i64 y, .int .i64 h] ⟨1, 1, [(0, .arr [.int .i64, .int .i64, .int .i64, .int .i64, .int .i64] .rd (.recs l))]⟩ (fun v _ => v = RQ l W y h ∧ nameless v = true) := by
  refine enter tt_ok Try.func25 (nt := 37) (cd := body Try.f25) rfl rfl rfl rfl ?_
  intro _
  refine call_pure [(0, some 0)] (valid_ok l W hl) rfl rfl rfl ?_ ?_ ?_
  · (repeat' first | exact trivial | exact rfl | refine And.intro ?_ ?_)
  · (repeat' first | exact trivial | exact rfl | refine And.intro ?_ ?_)
  intro v hv _
  subst hv
  have bad : ¬ Rm l W y h → RQ l W y h = .tup [.agg [.int .i64 0, .int .i64 0], .int .i64 1] := fun e => by unfold RQ; rw [if_neg e]
  intro _; refine ⟨fun g => ?_, fun g => ?_⟩
  · have g : (!decide (Vd l W)) = true := g
    rw [Bool.not_eq_true'] at g
    have g := of_decide_eq_false g
    intro _
    rw [bad (fun e => g e.1)]
    exact ⟨rfl, rfl⟩
  have g : (!decide (Vd l W)) = false := g
  rw [Bool.not_eq_false'] at g
  have hV := of_decide_eq_true g
  intro _
  refine high_test _ _ _ ?_
  intro _; refine ⟨fun g => ?_, fun g => ?_⟩
  · have g : (!decide (0 ≤ y ∧ y ≤ 1000000000)) = true := g
    rw [Bool.not_eq_true'] at g
    have g := of_decide_eq_false g
    intro _
    rw [bad (fun e => g e.2.1)]
    exact ⟨rfl, rfl⟩
  have g : (!decide (0 ≤ y ∧ y ≤ 1000000000)) = false := g
  rw [Bool.not_eq_false'] at g
  have hy := of_decide_eq_true g
  intro _
  refine len_test _ _ _ ?_
  intro _; refine ⟨fun g => ?_, fun g => ?_⟩
  · have g : (!decide (0 ≤ h ∧ h ≤ 1000000)) = true := g
    rw [Bool.not_eq_true'] at g
    have g := of_decide_eq_false g
    intro _
    rw [bad (fun e => g e.2.2)]
    exact ⟨rfl, rfl⟩
  have g : (!decide (0 ≤ h ∧ h ≤ 1000000)) = false := g
  rw [Bool.not_eq_false'] at g
  have hh := of_decide_eq_true g
  intro _
  refine call_pure [(0, some 0)] (room_ok l W y h hl hV hy hh) rfl rfl rfl ?_ ?_ ?_
  · (repeat' first | exact trivial | exact rfl | refine And.intro ?_ ?_)
  · (repeat' first | exact trivial | exact rfl | refine And.intro ?_ ?_)
  intro v hv _
  subst hv
  intro _
  have e : RQ l W y h = .tup [.agg [.int .i64 (Lo l y h l.length), .int .i64 (max (Hi l W y h l.length) (Lo l y h l.length))], .int .i64 0] := by unfold RQ; rw [if_pos ⟨hV, hy, hh⟩]
  rw [e]
  exact ⟨rfl, rfl⟩
def bt (l : Rows) : Nat → Int
  | 0 => 0
  | k + 1 => max (bt l k) (fy l k + fh l k)
theorem bt_bd {l : Rows} : ∀ k, (∀ i, i < k → Fl l i) → 0 ≤ bt l k ∧ bt l k ≤ 1001000000
  | 0, _ => by simp [bt]
  | k + 1, h => by
    have := bt_bd k (fun i hi => h i (by omega))
    obtain ⟨f0, f1, f2, f3, f4⟩ := h k (by omega)
    simp only [bt]; omega
theorem bt_le {l : Rows} : ∀ k, ∀ i, i < k → fy l i + fh l i ≤ bt l k
  | 0, i, h => by omega
  | k + 1, i, h => by
    simp only [bt]
    by_cases e : i = k
    · subst e; omega
    · have := bt_le (l := l) k i (by omega); omega
theorem below_ok (l : Rows) (W : Int) (hl : l.length ≤ 9223372036854775807) (hV : Vd l W) : SemF Try.prog 46 [.slc 0 5 0 l.length, .int .i64 W, .int .i64 0] ⟨1, 1, [(0, .arr [.int .i64, .int .i64, .int .i64, .int .i64, .int .i64] .rd (.recs l))]⟩ (fun v _ => v = .tup [.int .i64 (bt l l.length), .int .i64 0] ∧ nameless v = true) := by
  refine enter tt_ok Try.func46 (nt := 44) (cd := body Try.f46) rfl rfl rfl rfl ?_
  intro _
  refine call_pure [(0, some 0)] (valid_ok l W hl) rfl rfl rfl ?_ ?_ ?_
  · (repeat' first | exact trivial | exact rfl | refine And.intro ?_ ?_)
  · (repeat' first | exact trivial | exact rfl | refine And.intro ?_ ?_)
  intro v hv _
  subst hv
  intro _; refine ⟨fun g => ?_, fun g => ?_⟩
  · exfalso
    have g : (!decide (Vd l W)) = true := g
    rw [decide_eq_true hV] at g
    simp at g
  obtain ⟨⟨h200, hW⟩, hF⟩ := hV
  intro _
  refine ⟨fun g => absurd g (by decide), fun _ => ?_⟩
  intro _; refine ⟨fun g => absurd g (by decide), fun _ => ?_⟩
  intro _
  refine loop2 tt_ok [25, 8] [] 1 (fun k : { k : Nat // k ≤ l.length } => [(25, .int .i64 (k : Nat)), (8, .int .i64 (bt l k))]) (fun k => []) (fun k => l.length - k) ⟨0, by omega⟩ ?_
  intro _
  refine ⟨⟨th [] 1, rfl, rfl, rfl, rfl, rfl, rfl, ?_, ?_⟩, ?_⟩
  · (repeat' first | exact trivial | exact rfl | refine And.intro ?_ ?_)
  · (repeat' first | exact trivial | exact rfl | refine And.intro ?_ ?_)
  intro ⟨k, hk⟩
  have z : 0 + k = k := Nat.zero_add k
  intro _; refine ⟨fun g => ?_, fun g => ?_⟩
  rotate_left
  · have hkl := of_decide_eq_false (show decide ((k : Int) < (l.length : Int)) = false from g)
    have hkl : k = l.length := by omega
    subst hkl
    intro _
    exact ⟨rfl, rfl⟩
  have hkl := of_decide_eq_true (show decide ((k : Int) < (l.length : Int)) = true from g)
  intro _; refine ⟨show 0 ≤ (k : Int) ∧ (k : Int) < (l.length : Int) by omega, ?_⟩
  intro _; refine ⟨show 0 + (k : Int).toNat < l.length by omega, ?_⟩
  obtain ⟨f0, f1, f2, f3, f4⟩ := hF k (by omega)
  have eF : IntKind.i64.wrap (fy l (0 + k) + fh l (0 + k)) = fy l k + fh l k := by rw [z]; exact wrapS _ ⟨by omega, by omega⟩
  have ek := (wrap_nat k (by omega)).symm
  intro _; refine ⟨fun _ => ?_, fun g => absurd g (by decide)⟩
  intro _
  refine call_pure [] (bottom_ok (sd l (0 + k)) (fx l (0 + k)) (fy l (0 + k)) (fw l (0 + k)) (fh l (0 + k))) rfl rfl rfl ?_ ?_ ?_
  · (repeat' first | exact trivial | exact rfl | refine And.intro ?_ ?_)
  · (repeat' first | exact trivial | exact rfl | refine And.intro ?_ ?_)
  intro v hv _
  subst hv
  refine ⟨⟨k + 1, by omega⟩, by simp; omega, th [] 1, rfl, rfl, rfl, rfl, rfl, rfl, ?_, ?_⟩
  · (repeat' first | exact trivial | exact rfl | refine And.intro ?_ ?_)
    · exact ek
    · show max (bt l k) (fy l k + fh l k) = max (bt l k) (IntKind.i64.wrap (fy l (0 + k) + fh l (0 + k)))
      rw [eF]
  · (repeat' first | exact trivial | exact rfl | refine And.intro ?_ ?_)
theorem parts_has (l : Rows) (y a b : Int) (ha : 1 ≤ a) (hb : 1 ≤ b) (i : Nat) : hs l y (a + b) i = (hs l y a i || hs l (y + a) b i) := by
  unfold hs
  rw [← Bool.decide_or, decide_eq_decide]
  constructor
  · intro ⟨p, q, r⟩
    by_cases e : fy l i < y + a
    · exact .inl ⟨p, by omega, r⟩
    · exact .inr ⟨p, by omega, by omega⟩
  · rintro (⟨p, q, r⟩ | ⟨p, q, r⟩)
    · exact ⟨p, by omega, r⟩
    · exact ⟨p, by omega, by omega⟩
theorem parts_lo (l : Rows) (y a b : Int) (ha : 1 ≤ a) (hb : 1 ≤ b) : ∀ k, Lo l y (a + b) k = max (Lo l y a k) (Lo l (y + a) b k)
  | 0 => by simp [Lo]
  | k + 1 => by
    have ih := parts_lo l y a b ha hb k
    have e := parts_has l y a b ha hb k
    simp only [Lo, e, ih]
    by_cases s : sd l k = 1 <;> cases hs l y a k <;> cases hs l (y + a) b k <;> simp [s] <;> omega
theorem parts_hi (l : Rows) (W y a b : Int) (ha : 1 ≤ a) (hb : 1 ≤ b) : ∀ k, Hi l W y (a + b) k = min (Hi l W y a k) (Hi l W (y + a) b k)
  | 0 => by simp [Hi]
  | k + 1 => by
    have ih := parts_hi l W y a b ha hb k
    have e := parts_has l y a b ha hb k
    simp only [Hi, e, ih]
    by_cases s : sd l k = 1 <;> cases hs l y a k <;> cases hs l (y + a) b k <;> simp [s] <;> omega
theorem below_none (l : Rows) (y h : Int) : ∀ k, (∀ i, i < k → hs l y h i = false) → Lo l y h k = 0 ∧ ∀ W, Hi l W y h k = W
  | 0, _ => ⟨rfl, fun _ => rfl⟩
  | k + 1, hn => by
    obtain ⟨e1, e2⟩ := below_none l y h k (fun i hi => hn i (by omega))
    have := hn k (by omega)
    refine ⟨?_, fun W => ?_⟩
    · simp only [Lo, this, e1]; simp
    · simp only [Hi, this, e2]; simp
theorem RQ_ok {l : Rows} {W y h : Int} (e : Rm l W y h) : RQ l W y h = .tup [.agg [.int .i64 (Lo l y h l.length), .int .i64 (max (Hi l W y h l.length) (Lo l y h l.length))], .int .i64 0] := by unfold RQ; rw [if_pos e]
theorem beside_ok (y h a b c d e : Int) : SemF Try.prog 26 [.agg [.int .i64 a, .int .i64 b, .int .i64 c, .int .i64 d, .int .i64 e], .int .i64 y, .int .i64 h] ⟨0, 0, []⟩ (fun v _ => v = .test (decide (e > 0 ∧ c < IntKind.i64.wrap (y + max h 1) ∧ IntKind.i64.wrap (c + e) > y)) ∧ nameless v = true) := by
  refine SemF.test ?_
  refine enter tt_ok Try.func26 (nt := 28) (cd := body Try.f26) rfl rfl rfl rfl ?_
  intro _; refine ⟨fun g => ?_, fun g => ?_⟩
  rotate_left
  · have g := of_decide_eq_false (show decide (e > 0) = false from g)
    intro _
    exact ⟨false, .inl rfl, by rw [decide_eq_false (fun h => g h.1)], rfl⟩
  have g1 := of_decide_eq_true (show decide (e > 0) = true from g)
  intro _; refine ⟨fun g => ?_, fun g => ?_⟩
  rotate_left
  · have g := of_decide_eq_false (show decide (c < IntKind.i64.wrap (y + max h 1)) = false from g)
    intro _
    exact ⟨false, .inl rfl, by rw [decide_eq_false (fun h => g h.2.1)], rfl⟩
  have g2 := of_decide_eq_true (show decide (c < IntKind.i64.wrap (y + max h 1)) = true from g)
  intro _
  refine ⟨_, .inr rfl, ?_, rfl⟩
  by_cases e : IntKind.i64.wrap (c + e) > y
  · rw [decide_eq_true e, decide_eq_true ⟨g1, g2, e⟩]
  · rw [decide_eq_false e, decide_eq_false (fun h => e h.2.2)]
def fr (f : Nat → Int) : List D := [D.n (f 0), D.n (f 1), D.n (f 2), D.n (f 3), D.n (f 4)]
theorem app_len (l : Rows) (r : List D) : (l ++ [r]).length = l.length + 1 := by simp
theorem app_get {l : Rows} {r : List D} {i : Nat} (h : i < l.length) : (l ++ [r]).getD i [] = l.getD i [] := by
  rw [List.getD_eq_getElem?_getD, List.getD_eq_getElem?_getD, List.getElem?_append_left h]
theorem app_last {l : Rows} {r : List D} : (l ++ [r]).getD l.length [] = r := by
  rw [List.getD_eq_getElem?_getD, List.getElem?_append_right (Nat.le_refl _)]; simp
theorem app_lo {l : Rows} {r : List D} {y h : Int} : ∀ k, k ≤ l.length → Lo (l ++ [r]) y h k = Lo l y h k
  | 0, _ => rfl
  | k + 1, hk => by
    have e := app_get (l := l) (r := r) (show k < l.length by omega)
    simp only [Lo]
    rw [app_lo k (by omega)]
    unfold hs sd fx fw fy fh
    rw [e]
theorem app_hi {l : Rows} {r : List D} {W y h : Int} : ∀ k, k ≤ l.length → Hi (l ++ [r]) W y h k = Hi l W y h k
  | 0, _ => rfl
  | k + 1, hk => by
    have e := app_get (l := l) (r := r) (show k < l.length by omega)
    simp only [Hi]
    rw [app_hi k (by omega)]
    unfold hs sd fx fy fh
    rw [e]
theorem app_vd {l : Rows} {r : List D} {W : Int} (h : Vd (l ++ [r]) W) : Vd l W := by
  obtain ⟨⟨a, b⟩, c⟩ := h
  rw [app_len] at a
  refine ⟨⟨by omega, b⟩, fun i hi => ?_⟩
  have := c i (by rw [app_len]; omega)
  unfold Fl sd fx fy fw fh at this ⊢
  rw [app_get hi] at this
  exact this
theorem RQ_bad {l : Rows} {W y h : Int} (e : ¬ Rm l W y h) : RQ l W y h = .tup [.agg [.int .i64 0, .int .i64 0], .int .i64 1] := by unfold RQ; rw [if_neg e]
theorem lo_bd {l : Rows} {W y h : Int} (hV : Vd l W) : ∀ k, k ≤ l.length → 0 ≤ Lo l y h k ∧ Lo l y h k ≤ 2000000
  | 0, _ => by simp [Lo]
  | k + 1, hk => by
    have := lo_bd hV (y := y) (h := h) k (by omega)
    obtain ⟨f0, f1, f2, f3, f4⟩ := hV.2 k (by omega)
    simp only [Lo]; split <;> omega
theorem hi_bd {l : Rows} {W y h : Int} (hV : Vd l W) : ∀ k, k ≤ l.length → 0 ≤ Hi l W y h k ∧ Hi l W y h k ≤ 1000000
  | 0, _ => by simp only [Hi]; exact hV.1.2
  | k + 1, hk => by
    have := hi_bd hV (y := y) (h := h) k (by omega)
    obtain ⟨f0, f1, f2, f3, f4⟩ := hV.2 k (by omega)
    simp only [Hi]; split <;> omega
theorem app_room {l : Rows} {f : Nat → Int} {W y h : Int} (hV : Vd (l ++ [fr f]) W) (hy : 0 ≤ y ∧ y ≤ 1000000000) (hh : 0 ≤ h ∧ h ≤ 1000000) :
    (Lo (l ++ [fr f]) y h (l ++ [fr f]).length ≥ Lo l y h l.length) ∧
    (max (Hi (l ++ [fr f]) W y h (l ++ [fr f]).length) (Lo (l ++ [fr f]) y h (l ++ [fr f]).length) - Lo (l ++ [fr f]) y h (l ++ [fr f]).length ≤ max (Hi l W y h l.length) (Lo l y h l.length) - Lo l y h l.length) ∧
    (decide (f 4 > 0 ∧ f 2 < IntKind.i64.wrap (y + max h 1) ∧ IntKind.i64.wrap (f 2 + f 4) > y) = hs (l ++ [fr f]) y h l.length) ∧
    (hs (l ++ [fr f]) y h l.length = false → Lo (l ++ [fr f]) y h (l ++ [fr f]).length = Lo l y h l.length ∧ Hi (l ++ [fr f]) W y h (l ++ [fr f]).length = Hi l W y h l.length) := by
  have hl1 : (l ++ [fr f]).length = l.length + 1 := app_len _ _
  obtain ⟨g0, g1, g2, g3, g4⟩ := hV.2 l.length (by omega)
  have eY : fy (l ++ [fr f]) l.length = f 2 := by unfold fy; rw [app_last]; rfl
  have eH : fh (l ++ [fr f]) l.length = f 4 := by unfold fh; rw [app_last]; rfl
  have k3 : decide (f 4 > 0 ∧ f 2 < IntKind.i64.wrap (y + max h 1) ∧ IntKind.i64.wrap (f 2 + f 4) > y) = hs (l ++ [fr f]) y h l.length := by
    unfold hs; rw [eY, eH]
    rw [eY] at g4; rw [eH] at g3
    rw [wrapS (y + max h 1) ⟨by omega, by omega⟩, wrapS _ ⟨by omega, by omega⟩]
  rw [hl1]
  simp only [Lo, Hi]
  rw [app_lo l.length (Nat.le_refl _), app_hi l.length (Nat.le_refl _)]
  refine ⟨?_, ?_, k3, fun e => ?_⟩
  · split <;> omega
  · by_cases s : sd (l ++ [fr f]) l.length = 1 <;> cases e : hs (l ++ [fr f]) y h l.length <;> simp [s] <;> omega
  · rw [e]; simp
theorem lawF (l : Rows) (f : Nat → Int) (W y h : Int) (hl : List.length l ≤ 9223372036854775807) (hb : List.length l * 40 ≤ 140737488351232) : SemF Try.prog 6 [.slc 0 5 0 l.length, .agg [.int .i64 (f 0), .int .i64 (f 1), .int .i64 (f 2), .int .i64 (f 3), .int .i64 (f 4)], .int .i64 W, .int .i64 y, .int .i64 h] ⟨1, 1, [(0, .arr [.int .i64, .int .i64, .int .i64, .int .i64, .int .i64] .ro (.recs l))]⟩ (fun v _ => IsTrue v) := by
  refine enter tt_ok Try.func6 (nt := 94) (cd := body Try.f6) rfl rfl rfl rfl ?_
  intro _
  refine head_ok rfl Try.func23 (cd := body Try.f23) rfl ?_
  intro _
  refine Or.inl ?_
  intro _; refine ⟨show 0 + l.length ≤ l.length by omega, ?_⟩
  have eT : (l.drop 0).take l.length = l := by simp
  intro _; refine ⟨fun g => ?_, fun g => ?_⟩
  · intro _
    refine Or.inr ?_
    intro _; refine ⟨rfl, ?_⟩
    intro _; refine ⟨fun g3 => by simp at g3, fun _ => ?_⟩
    refine ⟨⟨rfl, show 0 + 1 ≤ 4611686018427387904 by omega, show (0 + 1) * 40 ≤ 140737488355328 by omega⟩, ?_⟩
    intro _; refine ⟨by kernel_rfl, ?_⟩
    have hl0 : l = [] := List.length_eq_zero_iff.1 (Nat.eq_of_beq_eq_true g)
    have eC : l ++ [fr f] = [] ++ [[D.n (f 0), D.n (f 1), D.n (f 2), D.n (f 3), D.n (f 4)]] := by rw [hl0]; rfl
    have eLn : (l ++ [fr f]).length = 0 + 1 := by rw [hl0]; rfl
    intro _; refine ⟨fun g => ?_, fun g => ?_⟩
    · intro _
      show true = true
      rfl
    have g30 := of_decide_eq_false (show decide ((l.length : Int) > 30) = false from g)
    intro _
    refine call_pure [(0, some 4)] (rvalid_ok (l ++ [fr f]) W (by rw [app_len]; omega)) rfl rfl rfl ?_ ?_ ?_
    · (repeat' first | exact trivial | exact rfl | refine And.intro ?_ ?_)
      exact eC
    · (repeat' first | exact trivial | exact rfl | refine And.intro ?_ ?_)
      exact eLn
    intro v hv _
    subst hv
    intro _; refine ⟨fun g => ?_, fun g => ?_⟩
    · intro _
      show true = true
      rfl
    have g : (!decide (Vd (l ++ [fr f]) W)) = false := g
    rw [Bool.not_eq_false'] at g
    have hV := of_decide_eq_true g
    have hV0 := app_vd hV
    intro _
    refine call_pure [(0, some 0)] (Room_ok l W y h hl) rfl rfl rfl ?_ ?_ ?_
    · (repeat' first | exact trivial | exact rfl | refine And.intro ?_ ?_)
    · (repeat' first | exact trivial | exact rfl | refine And.intro ?_ ?_)
    intro v hv _
    by_cases hR : (0 ≤ y ∧ y ≤ 1000000000) ∧ (0 ≤ h ∧ h ≤ 1000000)
    rotate_left
    · rw [RQ_bad (fun e => hR e.2)] at hv; subst hv
      intro _
      refine call_pure [(0, some 4)] (Room_ok (l ++ [fr f]) W y h (by rw [app_len]; omega)) rfl rfl rfl ?_ ?_ ?_
      · (repeat' first | exact trivial | exact rfl | refine And.intro ?_ ?_)
        exact eC
      · (repeat' first | exact trivial | exact rfl | refine And.intro ?_ ?_)
        exact eLn
      intro v hv _
      rw [RQ_bad (fun e => hR e.2)] at hv; subst hv
      intro _; refine ⟨fun _ => ?_, fun g => absurd g (by decide)⟩
      intro _
      show ((1 : Int) == 1) = true
      rfl
    rw [RQ_ok ⟨hV0, hR⟩] at hv; subst hv
    intro _
    refine call_pure [(0, some 4)] (Room_ok (l ++ [fr f]) W y h (by rw [app_len]; omega)) rfl rfl rfl ?_ ?_ ?_
    · (repeat' first | exact trivial | exact rfl | refine And.intro ?_ ?_)
      exact eC
    · (repeat' first | exact trivial | exact rfl | refine And.intro ?_ ?_)
      exact eLn
    intro v hv _
    rw [RQ_ok ⟨hV, hR⟩] at hv; subst hv
    intro _; refine ⟨fun g => absurd g (by decide), fun _ => ?_⟩
    intro _; refine ⟨fun g => absurd g (by decide), fun _ => ?_⟩
    obtain ⟨k1, k2, k3, k4⟩ := app_room hV hR.1 hR.2
    have bl := lo_bd hV0 (y := y) (h := h) l.length (Nat.le_refl _)
    have bh := hi_bd hV0 (y := y) (h := h) l.length (Nat.le_refl _)
    have bl2 := lo_bd hV (y := y) (h := h) (l ++ [fr f]).length (Nat.le_refl _)
    have bh2 := hi_bd hV (y := y) (h := h) (l ++ [fr f]).length (Nat.le_refl _)
    intro _; refine ⟨fun _ => ?_, fun g => ?_⟩
    rotate_left
    · exfalso
      have g := of_decide_eq_false (show decide (Lo (l ++ [fr f]) y h (l ++ [fr f]).length ≥ Lo l y h l.length) = false from g)
      exact g k1
    intro _; refine ⟨fun _ => ?_, fun g => ?_⟩
    rotate_left
    · exfalso
      have g : decide (IntKind.i64.wrap (max (Hi (l ++ [fr f]) W y h (l ++ [fr f]).length) (Lo (l ++ [fr f]) y h (l ++ [fr f]).length) - Lo (l ++ [fr f]) y h (l ++ [fr f]).length) ≤ IntKind.i64.wrap (max (Hi l W y h l.length) (Lo l y h l.length) - Lo l y h l.length)) = false := g
      rw [wrapS _ ⟨by omega, by omega⟩, wrapS _ ⟨by omega, by omega⟩] at g
      have g := of_decide_eq_false g
      omega
    intro _
    refine call_pure [] (beside_ok y h (f 0) (f 1) (f 2) (f 3) (f 4)) rfl rfl rfl ?_ ?_ ?_
    · (repeat' first | exact trivial | exact rfl | refine And.intro ?_ ?_)
    · (repeat' first | exact trivial | exact rfl | refine And.intro ?_ ?_)
    intro v hv _
    subst hv
    intro _; refine ⟨fun g => ?_, fun g => ?_⟩
    · intro _
      show true = true
      rfl
    have g : decide (f 4 > 0 ∧ f 2 < IntKind.i64.wrap (y + max h 1) ∧ IntKind.i64.wrap (f 2 + f 4) > y) = false := g
    rw [k3] at g
    obtain ⟨z1, z2⟩ := k4 g
    intro _
    show ((Lo l y h l.length == Lo (l ++ [fr f]) y h (l ++ [fr f]).length) && (max (Hi l W y h l.length) (Lo l y h l.length) == max (Hi (l ++ [fr f]) W y h (l ++ [fr f]).length) (Lo (l ++ [fr f]) y h (l ++ [fr f]).length))) = true
    rw [z1, z2]
    simp
  refine ⟨⟨rfl, show 0 + l.length ≤ 4611686018427387904 by omega, show (0 + l.length) * 40 ≤ 140737488355328 by omega⟩, ?_⟩
  intro _
  refine Or.inr ?_
  intro _; refine ⟨rfl, ?_⟩
  intro _; refine ⟨fun g3 => by simp at g3, fun _ => ?_⟩
  refine ⟨⟨by show 0 + l.length = List.length ([] ++ (l.drop 0).take l.length); simp, show 0 + l.length + 1 ≤ 4611686018427387904 by omega, show (0 + l.length + 1) * 40 ≤ 140737488355328 by omega⟩, ?_⟩
  intro _; refine ⟨by kernel_rfl, ?_⟩
  have eC : l ++ [fr f] = [] ++ (l.drop 0).take l.length ++ [[D.n (f 0), D.n (f 1), D.n (f 2), D.n (f 3), D.n (f 4)]] := by simp [fr]
  have eLn : (l ++ [fr f]).length = 0 + l.length + 1 := by simp
  intro _; refine ⟨fun g => ?_, fun g => ?_⟩
  · intro _
    show true = true
    rfl
  have g30 := of_decide_eq_false (show decide ((l.length : Int) > 30) = false from g)
  intro _
  refine call_pure [(0, some 5)] (rvalid_ok (l ++ [fr f]) W (by rw [app_len]; omega)) rfl rfl rfl ?_ ?_ ?_
  · (repeat' first | exact trivial | exact rfl | refine And.intro ?_ ?_)
    exact eC
  · (repeat' first | exact trivial | exact rfl | refine And.intro ?_ ?_)
    exact eLn
  intro v hv _
  subst hv
  intro _; refine ⟨fun g => ?_, fun g => ?_⟩
  · intro _
    show true = true
    rfl
  have g : (!decide (Vd (l ++ [fr f]) W)) = false := g
  rw [Bool.not_eq_false'] at g
  have hV := of_decide_eq_true g
  have hV0 := app_vd hV
  intro _
  refine call_pure [(0, some 0)] (Room_ok l W y h hl) rfl rfl rfl ?_ ?_ ?_
  · (repeat' first | exact trivial | exact rfl | refine And.intro ?_ ?_)
  · (repeat' first | exact trivial | exact rfl | refine And.intro ?_ ?_)
  intro v hv _
  by_cases hR : (0 ≤ y ∧ y ≤ 1000000000) ∧ (0 ≤ h ∧ h ≤ 1000000)
  rotate_left
  · rw [RQ_bad (fun e => hR e.2)] at hv; subst hv
    intro _
    refine call_pure [(0, some 5)] (Room_ok (l ++ [fr f]) W y h (by rw [app_len]; omega)) rfl rfl rfl ?_ ?_ ?_
    · (repeat' first | exact trivial | exact rfl | refine And.intro ?_ ?_)
      exact eC
    · (repeat' first | exact trivial | exact rfl | refine And.intro ?_ ?_)
      exact eLn
    intro v hv _
    rw [RQ_bad (fun e => hR e.2)] at hv; subst hv
    intro _; refine ⟨fun _ => ?_, fun g => absurd g (by decide)⟩
    intro _
    show ((1 : Int) == 1) = true
    rfl
  rw [RQ_ok ⟨hV0, hR⟩] at hv; subst hv
  intro _
  refine call_pure [(0, some 5)] (Room_ok (l ++ [fr f]) W y h (by rw [app_len]; omega)) rfl rfl rfl ?_ ?_ ?_
  · (repeat' first | exact trivial | exact rfl | refine And.intro ?_ ?_)
    exact eC
  · (repeat' first | exact trivial | exact rfl | refine And.intro ?_ ?_)
    exact eLn
  intro v hv _
  rw [RQ_ok ⟨hV, hR⟩] at hv; subst hv
  intro _; refine ⟨fun g => absurd g (by decide), fun _ => ?_⟩
  intro _; refine ⟨fun g => absurd g (by decide), fun _ => ?_⟩
  obtain ⟨k1, k2, k3, k4⟩ := app_room hV hR.1 hR.2
  have bl := lo_bd hV0 (y := y) (h := h) l.length (Nat.le_refl _)
  have bh := hi_bd hV0 (y := y) (h := h) l.length (Nat.le_refl _)
  have bl2 := lo_bd hV (y := y) (h := h) (l ++ [fr f]).length (Nat.le_refl _)
  have bh2 := hi_bd hV (y := y) (h := h) (l ++ [fr f]).length (Nat.le_refl _)
  intro _; refine ⟨fun _ => ?_, fun g => ?_⟩
  rotate_left
  · exfalso
    have g := of_decide_eq_false (show decide (Lo (l ++ [fr f]) y h (l ++ [fr f]).length ≥ Lo l y h l.length) = false from g)
    exact g k1
  intro _; refine ⟨fun _ => ?_, fun g => ?_⟩
  rotate_left
  · exfalso
    have g : decide (IntKind.i64.wrap (max (Hi (l ++ [fr f]) W y h (l ++ [fr f]).length) (Lo (l ++ [fr f]) y h (l ++ [fr f]).length) - Lo (l ++ [fr f]) y h (l ++ [fr f]).length) ≤ IntKind.i64.wrap (max (Hi l W y h l.length) (Lo l y h l.length) - Lo l y h l.length)) = false := g
    rw [wrapS _ ⟨by omega, by omega⟩, wrapS _ ⟨by omega, by omega⟩] at g
    have g := of_decide_eq_false g
    omega
  intro _
  refine call_pure [] (beside_ok y h (f 0) (f 1) (f 2) (f 3) (f 4)) rfl rfl rfl ?_ ?_ ?_
  · (repeat' first | exact trivial | exact rfl | refine And.intro ?_ ?_)
  · (repeat' first | exact trivial | exact rfl | refine And.intro ?_ ?_)
  intro v hv _
  subst hv
  intro _; refine ⟨fun g => ?_, fun g => ?_⟩
  · intro _
    show true = true
    rfl
  have g : decide (f 4 > 0 ∧ f 2 < IntKind.i64.wrap (y + max h 1) ∧ IntKind.i64.wrap (f 2 + f 4) > y) = false := g
  rw [k3] at g
  obtain ⟨z1, z2⟩ := k4 g
  intro _
  show ((Lo l y h l.length == Lo (l ++ [fr f]) y h (l ++ [fr f]).length) && (max (Hi l W y h l.length) (Lo l y h l.length) == max (Hi (l ++ [fr f]) W y h (l ++ [fr f]).length) (Lo (l ++ [fr f]) y h (l ++ [fr f]).length))) = true
  rw [z1, z2]
  simp

theorem slice_len {H : Type} {enc : TypeId × Value → H} {P : Program} {w : World} {spare : Nat → Bool} {held : Bool} {t e : TypeId} {d : DataW H} {p : List MemPlace} (ht : P.underlying t = some (.slice e)) {s : Src} {cap : Nat} (h : DataW.Trod enc P w 0 spare held t (s.val cap) d p) (hn : s.at_ = none → s.ac.len = 0) : s.ac.len = 0 ∨ ∃ elems sp, d = .slice elems sp ∧ elems.length = s.ac.len := by
  obtain ⟨fuel, h⟩ := h
  cases hat : s.at_ with
  | none => exact .inl (hn hat)
  | some q =>
    obtain ⟨B, o⟩ := q
    right
    have hv : s.val cap = Value.slice (some ⟨B, o, none⟩) s.ac.len cap := by simp only [Src.val, hat]
    rw [hv] at h
    rcases Go.Deep.open_slice ht h with ⟨h1, _⟩ | ⟨a, len, cap', m, n, D, Pl, h1, _, _, _, _, hx, _⟩
    · have h1 : [Value.slice (some ⟨B, o, none⟩) s.ac.len cap] = [.slice none 0 0] := h1
      simp at h1
    · have h1 : [Value.slice (some ⟨B, o, none⟩) s.ac.len cap] = [.slice (some a) len cap'] := h1
      simp only [List.cons.injEq, Value.slice.injEq, and_true] at h1
      obtain ⟨_, h2, _⟩ := h1
      simp only [Prod.mk.injEq] at hx
      exact ⟨_, _, hx.1, by simp [h2]⟩
def SV (x : Nat → Int) : List V := [.int .i64 (x 0), .int .i64 (x 1), .int .i64 (x 2), .int .i64 (x 3), .int .i64 (x 4)]
def SVA (x : Nat → Int) : List Go.Vm.AV := [.int .i64 (x 0), .int .i64 (x 1), .int .i64 (x 2), .int .i64 (x 3), .int .i64 (x 4)]
theorem SV_cv (x : Nat → Int) {n : Nat} {ν : Nu} : Cv n ν (.agg (SV x)) (.agg (SVA x)) := by
  simp only [Cv]
  exact ⟨SVA x, rfl, Cvs.cons mk_int (Cvs.cons mk_int (Cvs.cons mk_int (Cvs.cons mk_int (Cvs.cons mk_int (Cvs.nil)))))⟩
set_option maxRecDepth 100000 in
theorem arr_of (cs : Array Value) (hs : cs.size = 5) (hc : ∀ i, i < 5 → ∃ n, cs[i]? = some (.int .i64 n)) : ∃ x : Nat → Int, ∀ ρ, Go.Vm.conv ρ (.agg (SVA x)) = some (.agg cs) := by
  refine ⟨fun i => match (cs[i]? : Option Value) with | some (Value.int _ n) => n | _ => (0 : Int), fun ρ => ?_⟩
  have h1 : Go.Vm.convs ρ (SVA fun i => match (cs[i]? : Option Value) with | some (Value.int _ n) => n | _ => (0 : Int)) = some cs.toList := by
    show Go.Vm.convs ρ ((List.range 5).map fun i => Go.Vm.AV.int .i64 (match (cs[i]? : Option Value) with | some (Value.int _ n) => n | _ => (0 : Int))) = _
    refine Go.Vm.convs_of_get (by simp [hs]) (fun i v hv => ?_)
    have hi : i < 5 := by
      rcases Nat.lt_or_ge i 5 with h | h
      · exact h
      · rw [List.getElem?_eq_none (by simpa using h)] at hv; cases hv
    obtain ⟨n, hn⟩ := hc i hi
    rw [List.getElem?_map, List.getElem?_range hi] at hv
    have hv : some (Go.Vm.AV.int .i64 (match (cs[i]? : Option Value) with | some (Value.int _ n) => n | _ => (0 : Int))) = some v := hv
    rw [hn] at hv
    cases hv
    exact ⟨.int .i64 n, rfl, by simpa using hn⟩
  simp only [Go.Vm.conv, h1]
  try simp
set_option maxRecDepth 100000 in
/-- what an array of integers is -/
theorem ints_of {w : World} {base : Nat} {v : Value} (h : Value.okWide Try.prog w .any base 55 v) : ∃ cs : Array Value, v = .agg cs ∧ cs.size = 5 ∧ ∀ i, i < 5 → ∃ n, cs[i]? = some (.int .i64 n) := by
  unfold Value.okWide at h
  rw [Try.underlying55] at h
  obtain ⟨cs, rfl, hs, ts, ht, _, hk⟩ := h
  have e1 : Try.prog.cellsOf 55 = 5 := by kernel_rfl
  have e2 : Try.prog.cellTypes Try.prog.depth 55 = some (List.replicate 5 3) := by kernel_rfl
  rw [e2] at ht
  simp only [Option.some.injEq] at ht
  subst ht
  refine ⟨cs, rfl, by rw [hs, e1], fun i hi => ?_⟩
  have hlt : i < cs.size := by rw [hs, e1]; exact hi
  obtain ⟨u, hu, hok⟩ := hk i cs[i] (by simp [hlt])
  have hu3 : u = 3 := by
    rw [List.length_replicate, Nat.mod_eq_of_lt hi, List.getElem?_replicate, if_pos hi] at hu
    exact (Option.some.inj hu).symm
  subst hu3
  have hv : Value.okWide Try.prog w .any base 3 cs[i] := by
    unfold Value.okWide
    rw [Try.underlying3]
    exact hok
  obtain ⟨n, hn⟩ := okWide_int Try.underlying3 hv
  exact ⟨n, by rw [← hn]; simp [hlt]⟩
theorem walk (w : World) (v_l : Value) (s_l : Src) (l : List (List Go.Vm2.D)) (cap_l : Nat) (hk_l : s_l.ks = [.int .i64, .int .i64, .int .i64, .int .i64, .int .i64]) (ha_l : s_l.ac = .recs l) (hs_l : s_l.lies w) (hn_l : s_l.at_ = none → l.length = 0) (hc_l : l.length ≤ cap_l) (hv_l : v_l = s_l.val cap_l) (hm_l : l.length ≤ maxLen) (w_l : ∀ n ∈ l, rowWf [.int .i64, .int .i64, .int .i64, .int .i64, .int .i64] n) (z_l : l.length * 40 ≤ 140737488351232) (fl : Nat → Int) (v_fl : Value) (h_fl : ∀ ρ, Go.Vm.conv ρ (.agg (SVA fl)) = some v_fl) (wid : Int) (w_wid : (Lit.int .i64 wid).wf = true) (yy : Int) (w_yy : (Lit.int .i64 yy).wf = true) (hgt : Int) (w_hgt : (Lit.int .i64 hgt).wf = true) :
    Calls Try.prog 6 #[v_l, v_fl, .int .i64 wid, .int .i64 yy, .int .i64 hgt] w fun e w' => e = .returned (.bool true) ∧ Below w.heap.size w w' := by
  obtain ⟨at_l, ks_l, ac_l⟩ := s_l
  simp only [] at hk_l ha_l
  subst hk_l ha_l
  have h_l : l.length ≤ 9223372036854775807 := by unfold maxLen at hm_l; omega
  have b_wid := w_wid
  simp [Lit.wf, IntKind.min, IntKind.max, IntKind.signed, IntKind.bits] at b_wid
  have b_yy := w_yy
  simp [Lit.wf, IntKind.min, IntKind.max, IntKind.signed, IntKind.bits] at b_yy
  have b_hgt := w_hgt
  simp [Lit.wf, IntKind.min, IntKind.max, IntKind.signed, IntKind.bits] at b_hgt
  exact top_run (by kernel_rfl) (by kernel_rfl) (T := [23]) (fun f hf w => by
      rcases List.mem_cons.1 hf with e | e
      · subst e; exact head w
      · exact (List.not_mem_nil e).elim) (l := [⟨at_l, [.int .i64, .int .i64, .int .i64, .int .i64, .int .i64], .recs l⟩]) (args := [.slc 0 5 0 l.length, .agg (SV fl), .int .i64 wid, .int .i64 yy, .int .i64 hgt]) («as» := [Src.av 0 cap_l ⟨at_l, [.int .i64, .int .i64, .int .i64, .int .i64, .int .i64], .recs l⟩, .agg (SVA fl), .int .i64 wid, .int .i64 yy, .int .i64 hgt]) (cargs := [v_l, v_fl, .int .i64 wid, .int .i64 yy, .int .i64 hgt]) w
    (fun s h => by
      rcases List.mem_cons.1 h with e | h
      · subst e; exact hs_l
      · exact (List.not_mem_nil h).elim)
    (Cvs.cons (src_cv (s := ⟨at_l, [.int .i64, .int .i64, .int .i64, .int .i64, .int .i64], .recs l⟩) rfl 5 hc_l hn_l) (Cvs.cons (SV_cv fl) (Cvs.cons mk_int (Cvs.cons mk_int (Cvs.cons mk_int Cvs.nil)))))
    (by simp only [Go.Vm.convs, h_fl]; try simp only [Go.Vm.conv]; rw [src_conv (j := 0) (s := ⟨at_l, [.int .i64, .int .i64, .int .i64, .int .i64, .int .i64], .recs l⟩) rfl, hv_l])
    ((lawF l fl wid yy hgt h_l z_l))

set_option maxRecDepth 100000 in
theorem lifted (os : Os) (started : os.Started) (H : Type) (enc : TypeId × Value → H) :
    ReturnsInHanded {} Try.checked os 6 .any (Rows.floatsFurtherSpec.pre6 enc Try.prog Try.f6 Rows.floatsFurtherRow.domain false) (Rows.floatsFurtherSpec.post enc Try.prog Try.f6 false true false false) := by
  refine returnsInHanded_of_change_sized (C := Try.checked) own started (by kernel_rfl) Try.func6
    (ChangeSpec.witness6 (enc := enc) (C := Try.checked) false ⟨#[], #[.slice none 0 0, .agg (Array.replicate 5 (.int .i64 0)), .int .i64 0, .int .i64 0, .int .i64 0], []⟩ 8 (by kernel_rfl) (by kernel_rfl) (by kernel_rfl) (by kernel_rfl)) ?_
  intro W base args ds gs before hval0 hW hcnd hsz0 _
  have hval : ∀ (j : Nat) t v, Try.f6.params[j]? = some t → args[j]? = some v → Value.okWide Try.prog W .any base t v := hval0
  have hW' := hW
  obtain ⟨p, q, hA0, hV, rfl, hfz, hnd⟩ := hW
  have hA : DataW.TrodAll enc Try.prog W 0 (fun _ => true) true Try.f6.params.toList args.toList ds p := hA0
  rw [Try.params6] at hA hval
  obtain ⟨v0, vs0, d0, ds0, p0, q0, hargs, rfl, rfl, h0, r0⟩ := trodAll_cons hA
  obtain ⟨v1, vs1, d1, ds1, p1, q1, rfl, rfl, rfl, h1, r1⟩ := trodAll_cons r0
  obtain ⟨v2, vs2, d2, ds2, p2, q2, rfl, rfl, rfl, h2, r2⟩ := trodAll_cons r1
  obtain ⟨v3, vs3, d3, ds3, p3, q3, rfl, rfl, rfl, h3, r3⟩ := trodAll_cons r2
  obtain ⟨v4, vs4, d4, ds4, p4, q4, rfl, rfl, rfl, h4, r4⟩ := trodAll_cons r3
  obtain ⟨rfl, rfl, rfl⟩ := trodAll_nil r4
  obtain rfl : args = #[v0, v1, v2, v3, v4] := by cases args; simp_all
  obtain ⟨rfl, rfl⟩ := trodVars_none hV
  obtain ⟨s_l, l, cap_l, hk_l, ha_l, hs_l, hn_l, hc_l, hv_l, hm_l, w_l⟩ := Go.Vm2.open_recs (ks := [.int .i64, .int .i64, .int .i64, .int .i64, .int .i64]) Try.underlying53 Try.underlying55 (by kernel_rfl) (by simp) (by kernel_rfl) (hval 0 53 v0 rfl rfl) h0
  have hlt0 : ∀ x ∈ p0, x.block < W.heap.size := fun x hx => by simpa using hW'.lt x (by simp [hx])
  obtain ⟨cs_fl, rfl, hz_fl, hc_fl⟩ := ints_of (hval 1 55 v1 rfl rfl)
  obtain ⟨fl, h_fl⟩ := arr_of cs_fl hz_fl hc_fl
  have hlt1 : ∀ x ∈ p1, x.block < W.heap.size := fun x hx => by simpa using hW'.lt x (by simp [hx])
  obtain ⟨wid, rfl, rfl, rfl, w_wid⟩ := open_int Try.underlying3 (hval 2 3 v2 rfl rfl) h2
  obtain ⟨yy, rfl, rfl, rfl, w_yy⟩ := open_int Try.underlying3 (hval 3 3 v3 rfl rfl) h3
  obtain ⟨hgt, rfl, rfl, rfl, w_hgt⟩ := open_int Try.underlying3 (hval 4 3 v4 rfl rfl) h4
  have hsz := hsz0
  rw [Try.params6] at hsz
  have z_l : l.length * 40 ≤ 140737488351232 := by
    have hh := h0
    rw [hv_l] at hh
    have e : s_l.ac.len = l.length := by rw [ha_l]; rfl
    rcases slice_len Try.underlying53 hh (fun g => by rw [e]; exact hn_l g) with g | ⟨el, sp', hd, hl⟩
    · rw [e] at g; omega
    · have hs := sized_slice hsz (j := 0) (t := 53) (e := 55) rfl (by rw [hd]; rfl) Try.underlying53
      rw [show Try.checked.prog.bytesOf 55 = 40 by kernel_rfl, hl, e, Nat.add_mul] at hs
      simp only [reachBytes] at hs
      omega
  clear hA0 hval0
  refine (walk W v0 s_l l cap_l hk_l ha_l hs_l hn_l hc_l hv_l hm_l w_l z_l fl (.agg cs_fl) h_fl wid w_wid yy w_yy hgt w_hgt).mono fun e W' ⟨he, hg⟩ => ?_
  subst he
  exact ⟨_, rfl, _, _, _, [], _, [], hW', trodAll_cons_mk (shut_bool Try.underlying4 _) trodAll_mk0, (trodAll_cons_mk (Below.trod laidOut (by kernel_rfl) (of_decide_eq_true (by kernel_rfl)) h0 hg hlt0) (trodAll_cons_mk (Below.trod laidOut (by kernel_rfl) (of_decide_eq_true (by kernel_rfl)) h1 hg hlt1) (trodAll_cons_mk (shut_int Try.underlying3 w_wid) (trodAll_cons_mk (shut_int Try.underlying3 w_yy) (trodAll_cons_mk (shut_int Try.underlying3 w_hgt) trodAll_mk0))))), rfl, hg.frame _, fun h => by cases h⟩

theorem over : Rows.floatsFurtherRow.holds Try.pinned (OpenSpec.ofChange Rows.floatsFurtherSpec) :=
  OpenClaim.holds_of_wide 6 Try.f6 rfl rfl rfl rfl rfl rfl rfl ⟨rfl, rfl, rfl, rfl, rfl⟩ rfl rfl rfl rfl rfl (by kernel_rfl) Try.func6 (by kernel_rfl)
    (of_decide_eq_true (by kernel_rfl)) (by unfold Func.isWrapper; first | (rw [if_pos (by decide +kernel)]; kernel_rfl) | (rw [if_neg (by decide +kernel)]; exact ⟨rfl, rfl⟩))
    (fun os started H enc _ => lifted os started H enc)

/-- the statement -/
theorem proved : Rows.FloatsFurtherSaid :=
  over
#print axioms proved
end Go.Proofs.Ytckdkhdkcihpjab.floatsFurther
