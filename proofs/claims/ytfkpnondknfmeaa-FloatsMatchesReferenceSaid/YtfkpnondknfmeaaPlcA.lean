/-
  Floats that are placed: contracts of package floats and of its reference. No conditions beyond those that its theorems name.
-/
import Derived.Test.YtfkpnondknfmeaaRows
import Derived.Test.YtfkpnondknfmeaaVwOpen2
import Derived.Test.YtfkpnondknfmeaaVwRules7
import Derived.Test.YtfkpnondknfmeaaVmFast3
import Derived.WalkKit
import Derived.ProofKit
import Derived.OpenShut
import Derived.Carry
import Derived.Test.YtfkpnondknfmeaaSrtB
namespace Go.Proofs.Ytfkpnondknfmeaa.floatsApart
open Go.ChangeShapes Go.WideShapes Go.ChangeAt Go.RowKit
open Go.Vm (Facts Val Sound)
open Go.Vm2
set_option linter.unusedVariables false
set_option linter.unusedSectionVars false

set_option maxRecDepth 100000
abbrev Rows := List (List D)
theorem len_test (n : Int) (h : H) (K : V → H → Prop) (hK : K (.test (decide (0 ≤ n ∧ n ≤ 1000000))) h) : SemF Try.prog 23 [.int .i64 n] h K := by
  refine SemF.test ?_
  refine enter tt_ok Try.func23 (nt := 9) (cd := body Try.f23) rfl rfl rfl rfl ?_
  intro _; refine ⟨fun g => ?_, fun g => ?_⟩
  · have g := of_decide_eq_true (show decide (n ≥ 0) = true from g)
    intro _
    refine ⟨_, .inr rfl, ?_⟩
    have : decide (0 ≤ n ∧ n ≤ 1000000) = decide (n ≤ 1000000) := by
      by_cases e : n ≤ 1000000
      · rw [decide_eq_true e, decide_eq_true (show 0 ≤ n ∧ n ≤ 1000000 from ⟨by omega, e⟩)]
      · rw [decide_eq_false e, decide_eq_false (fun m => e m.2)]
    rw [← this]; exact hK
  · have g := of_decide_eq_false (show decide (n ≥ 0) = false from g)
    intro _
    refine ⟨false, .inl rfl, ?_⟩
    have : decide (0 ≤ n ∧ n ≤ 1000000) = false := decide_eq_false (fun m => by have := m.1; omega)
    rw [← this]; exact hK
theorem high_test (n : Int) (h : H) (K : V → H → Prop) (hK : K (.test (decide (0 ≤ n ∧ n ≤ 1000000000))) h) : SemF Try.prog 22 [.int .i64 n] h K := by
  refine SemF.test ?_
  refine enter tt_ok Try.func22 (nt := 9) (cd := body Try.f22) rfl rfl rfl rfl ?_
  intro _; refine ⟨fun g => ?_, fun g => ?_⟩
  · have g := of_decide_eq_true (show decide (n ≥ 0) = true from g)
    intro _
    refine ⟨_, .inr rfl, ?_⟩
    have : decide (0 ≤ n ∧ n ≤ 1000000000) = decide (n ≤ 1000000000) := by
      by_cases e : n ≤ 1000000000
      · rw [decide_eq_true e, decide_eq_true (show 0 ≤ n ∧ n ≤ 1000000000 from ⟨by omega, e⟩)]
      · rw [decide_eq_false e, decide_eq_false (fun m => e m.2)]
    rw [← this]; exact hK
  · have g := of_decide_eq_false (show decide (n ≥ 0) = false from g)
    intro _
    refine ⟨false, .inl rfl, ?_⟩
    have : decide (0 ≤ n ∧ n ≤ 1000000000) = false := decide_eq_false (fun m => by have := m.1; omega)
    rw [← this]; exact hK
theorem rlen_test (n : Int) (h : H) (K : V → H → Prop) (hK : K (.test (decide (0 ≤ n ∧ n ≤ 1000000))) h) : SemF Try.prog 26 [.int .i64 n] h K := by
  refine SemF.test ?_
  refine enter tt_ok Try.func26 (nt := 9) (cd := body Try.f26) rfl rfl rfl rfl ?_
  intro _; refine ⟨fun g => ?_, fun g => ?_⟩
  · have g := of_decide_eq_true (show decide (n ≥ 0) = true from g)
    intro _
    refine ⟨_, .inr rfl, ?_⟩
    have : decide (0 ≤ n ∧ n ≤ 1000000) = decide (n ≤ 1000000) := by
      by_cases e : n ≤ 1000000
      · rw [decide_eq_true e, decide_eq_true (show 0 ≤ n ∧ n ≤ 1000000 from ⟨by omega, e⟩)]
      · rw [decide_eq_false e, decide_eq_false (fun m => e m.2)]
    rw [← this]; exact hK
  · have g := of_decide_eq_false (show decide (n ≥ 0) = false from g)
    intro _
    refine ⟨false, .inl rfl, ?_⟩
    have : decide (0 ≤ n ∧ n ≤ 1000000) = false := decide_eq_false (fun m => by have := m.1; omega)
    rw [← this]; exact hK
theorem rhigh_test (n : Int) (h : H) (K : V → H → Prop) (hK : K (.test (decide (0 ≤ n ∧ n ≤ 1000000000))) h) : SemF Try.prog 25 [.int .i64 n] h K := by
  refine SemF.test ?_
  refine enter tt_ok Try.func25 (nt := 9) (cd := body Try.f25) rfl rfl rfl rfl ?_
  intro _; refine ⟨fun g => ?_, fun g => ?_⟩
  · have g := of_decide_eq_true (show decide (n ≥ 0) = true from g)
    intro _
    refine ⟨_, .inr rfl, ?_⟩
    have : decide (0 ≤ n ∧ n ≤ 1000000000) = decide (n ≤ 1000000000) := by
      by_cases e : n ≤ 1000000000
      · rw [decide_eq_true e, decide_eq_true (show 0 ≤ n ∧ n ≤ 1000000000 from ⟨by omega, e⟩)]
      · rw [decide_eq_false e, decide_eq_false (fun m => e m.2)]
    rw [← this]; exact hK
  · have g := of_decide_eq_false (show decide (n ≥ 0) = false from g)
    intro _
    refine ⟨false, .inl rfl, ?_⟩
    have : decide (0 ≤ n ∧ n ≤ 1000000000) = false := decide_eq_false (fun m => by have := m.1; omega)
    rw [← this]; exact hK
def sd (l : Rows) (i : Nat) : Int := ((l.getD i []).getD 0 (D.n 0)).int
def fx (l : Rows) (i : Nat) : Int := ((l.getD i []).getD 1 (D.n 0)).int
def fy (l : Rows) (i : Nat) : Int := ((l.getD i []).getD 2 (D.n 0)).int
def fw (l : Rows) (i : Nat) : Int := ((l.getD i []).getD 3 (D.n 0)).int
def fh (l : Rows) (i : Nat) : Int := ((l.getD i []).getD 4 (D.n 0)).int
abbrev K5 : List CK := [.int .i64, .int .i64, .int .i64, .int .i64, .int .i64]
def Fl (l : Rows) (i : Nat) : Prop := (sd l i = 1 ∨ sd l i = 2) ∧ (0 ≤ fx l i ∧ fx l i ≤ 1000000) ∧ (0 ≤ fw l i ∧ fw l i ≤ 1000000) ∧ (0 ≤ fh l i ∧ fh l i ≤ 1000000) ∧ (0 ≤ fy l i ∧ fy l i ≤ 1000000000)
def Vd (l : Rows) (W : Int) : Prop := (l.length ≤ 200 ∧ 0 ≤ W ∧ W ≤ 1000000) ∧ ∀ i, i < l.length → Fl l i
instance decFl (l : Rows) (i : Nat) : Decidable (Fl l i) := inferInstanceAs (Decidable (_ ∧ _))
instance decVd (l : Rows) (W : Int) : Decidable (Vd l W) := inferInstanceAs (Decidable (_ ∧ _))
abbrev VIdx (l : Rows) := { k : Nat // k ≤ l.length ∧ ∀ i, i < k → Fl l i }
theorem vidx_succ {l : Rows} {k : Nat} (hm : ∀ i, i < k → Fl l i) (h : Fl l k) : ∀ i, i < k + 1 → Fl l i := fun i hi => by
  by_cases e : i = k
  · subst e; exact h
  · exact hm i (by omega)
theorem valid_ok (l : Rows) (W : Int) (hl : l.length ≤ 9223372036854775807) : SemF Try.prog 12 [.slc 0 5 0 l.length, .int .i64 W] ⟨1, 1, [(0, .arr [.int .i64, .int .i64, .int .i64, .int .i64, .int .i64] .rd (.recs l))]⟩ (fun v _ => v = .test (decide (Vd l W)) ∧ nameless v = true) := by
  refine SemF.test ?_
  refine enter tt_ok Try.func12 (nt := 54) (cd := body Try.f12) rfl rfl rfl rfl ?_
  intro _; refine ⟨fun g => ?_, fun g => ?_⟩
  · have g := of_decide_eq_true (show decide ((l.length : Int) > 200) = true from g)
    intro _
    exact ⟨false, .inl rfl, by rw [decide_eq_false (fun h : Vd l W => by have := h.1.1; omega)], rfl⟩
  have g1 := of_decide_eq_false (show decide ((l.length : Int) > 200) = false from g)
  intro _
  refine len_test _ _ _ ?_
  intro _; refine ⟨fun g => ?_, fun g => ?_⟩
  · have g : (!decide (0 ≤ W ∧ W ≤ 1000000)) = true := g
    rw [Bool.not_eq_true'] at g
    have g := of_decide_eq_false g
    intro _
    exact ⟨false, .inl rfl, by rw [decide_eq_false (fun h : Vd l W => g h.1.2)], rfl⟩
  have g : (!decide (0 ≤ W ∧ W ≤ 1000000)) = false := g
  rw [Bool.not_eq_false'] at g
  have hW := of_decide_eq_true g
  intro _
  refine loop2 tt_ok [17] [] 1 (fun k : VIdx l => [(17, .int .i64 (k : Nat))]) (fun _ => []) (fun k => l.length - k) ⟨0, by omega, fun i h => by omega⟩ ?_
  intro _
  refine ⟨⟨th [] 1, rfl, rfl, rfl, rfl, rfl, rfl, ?_, ?_⟩, ?_⟩
  · (repeat' first | exact trivial | exact rfl | refine And.intro ?_ ?_)
  · (repeat' first | exact trivial | exact rfl | refine And.intro ?_ ?_)
  intro ⟨k, hk, hmk⟩
  have z : 0 + k = k := Nat.zero_add k
  intro _; refine ⟨fun g => ?_, fun g => ?_⟩
  rotate_left
  · have hkl := of_decide_eq_false (show decide ((k : Int) < (l.length : Int)) = false from g)
    have hkl : k = l.length := by omega
    subst hkl
    intro _
    exact ⟨true, .inl rfl, by rw [decide_eq_true (show Vd l W from ⟨⟨by omega, hW⟩, hmk⟩)], rfl⟩
  have hkl := of_decide_eq_true (show decide ((k : Int) < (l.length : Int)) = true from g)
  have bad : ¬ Fl l k → decide (Vd l W) = false := fun h => decide_eq_false (fun hv => h (hv.2 k (by omega)))
  intro _; refine ⟨show 0 ≤ (k : Int) ∧ (k : Int) < (l.length : Int) by omega, ?_⟩
  intro _; refine ⟨show 0 + (k : Int).toNat < l.length by omega, ?_⟩
  intro _; refine ⟨fun g => ?_, fun g => ?_⟩
  · have g : (sd l (0 + k) != 1) = true := g
    rw [z] at g
    have s1 : sd l k ≠ 1 := by simpa using g
    intro _; refine ⟨fun g => ?_, fun g => ?_⟩
    · have g : (sd l (0 + k) != 2) = true := g
      rw [z] at g
      have s2 : sd l k ≠ 2 := by simpa using g
      intro _
      exact ⟨false, .inl rfl, by rw [bad (fun h => h.1.elim s1 s2)], rfl⟩
    have g : (sd l (0 + k) != 2) = false := g
    rw [z] at g
    have s2 : sd l k = 2 := by simpa using g
    intro _
    refine len_test _ _ _ ?_
    intro _; refine ⟨fun g => ?_, fun g => ?_⟩
    · have g : (!decide (0 ≤ fx l (0 + k) ∧ fx l (0 + k) ≤ 1000000)) = true := g
      rw [z, Bool.not_eq_true'] at g
      have g := of_decide_eq_false g
      intro _
      exact ⟨false, .inl rfl, by rw [bad (fun h => g h.2.1)], rfl⟩
    have g : (!decide (0 ≤ fx l (0 + k) ∧ fx l (0 + k) ≤ 1000000)) = false := g
    rw [z, Bool.not_eq_false'] at g
    have c0 := of_decide_eq_true g
    intro _
    refine len_test _ _ _ ?_
    intro _; refine ⟨fun g => ?_, fun g => ?_⟩
    · have g : (!decide (0 ≤ fw l (0 + k) ∧ fw l (0 + k) ≤ 1000000)) = true := g
      rw [z, Bool.not_eq_true'] at g
      have g := of_decide_eq_false g
      intro _
      exact ⟨false, .inl rfl, by rw [bad (fun h => g h.2.2.1)], rfl⟩
    have g : (!decide (0 ≤ fw l (0 + k) ∧ fw l (0 + k) ≤ 1000000)) = false := g
    rw [z, Bool.not_eq_false'] at g
    have c1 := of_decide_eq_true g
    intro _
    refine len_test _ _ _ ?_
    intro _; refine ⟨fun g => ?_, fun g => ?_⟩
    · have g : (!decide (0 ≤ fh l (0 + k) ∧ fh l (0 + k) ≤ 1000000)) = true := g
      rw [z, Bool.not_eq_true'] at g
      have g := of_decide_eq_false g
      intro _
      exact ⟨false, .inl rfl, by rw [bad (fun h => g h.2.2.2.1)], rfl⟩
    have g : (!decide (0 ≤ fh l (0 + k) ∧ fh l (0 + k) ≤ 1000000)) = false := g
    rw [z, Bool.not_eq_false'] at g
    have c2 := of_decide_eq_true g
    intro _
    refine high_test _ _ _ ?_
    intro _; refine ⟨fun g => ?_, fun g => ?_⟩
    · have g : (!decide (0 ≤ fy l (0 + k) ∧ fy l (0 + k) ≤ 1000000000)) = true := g
      rw [z, Bool.not_eq_true'] at g
      have g := of_decide_eq_false g
      intro _
      exact ⟨false, .inl rfl, by rw [bad (fun h => g h.2.2.2.2)], rfl⟩
    have g : (!decide (0 ≤ fy l (0 + k) ∧ fy l (0 + k) ≤ 1000000000)) = false := g
    rw [z, Bool.not_eq_false'] at g
    have c3 := of_decide_eq_true g
    refine ⟨⟨k + 1, by omega, vidx_succ hmk ⟨.inr s2, c0, c1, c2, c3⟩⟩, by simp; omega, th [] 1, rfl, rfl, rfl, rfl, rfl, rfl, ?_, ?_⟩
    · (repeat' first | exact trivial | exact rfl | refine And.intro ?_ ?_)
      exact (wrap_nat k (by omega)).symm
    · (repeat' first | exact trivial | exact rfl | refine And.intro ?_ ?_)
  · have g : (sd l (0 + k) != 1) = false := g
    rw [z] at g
    have s1 : sd l k = 1 := by simpa using g
    intro _
    refine len_test _ _ _ ?_
    intro _; refine ⟨fun g => ?_, fun g => ?_⟩
    · have g : (!decide (0 ≤ fx l (0 + k) ∧ fx l (0 + k) ≤ 1000000)) = true := g
      rw [z, Bool.not_eq_true'] at g
      have g := of_decide_eq_false g
      intro _
      exact ⟨false, .inl rfl, by rw [bad (fun h => g h.2.1)], rfl⟩
    have g : (!decide (0 ≤ fx l (0 + k) ∧ fx l (0 + k) ≤ 1000000)) = false := g
    rw [z, Bool.not_eq_false'] at g
    have c0 := of_decide_eq_true g
    intro _
    refine len_test _ _ _ ?_
    intro _; refine ⟨fun g => ?_, fun g => ?_⟩
    · have g : (!decide (0 ≤ fw l (0 + k) ∧ fw l (0 + k) ≤ 1000000)) = true := g
      rw [z, Bool.not_eq_true'] at g
      have g := of_decide_eq_false g
      intro _
      exact ⟨false, .inl rfl, by rw [bad (fun h => g h.2.2.1)], rfl⟩
    have g : (!decide (0 ≤ fw l (0 + k) ∧ fw l (0 + k) ≤ 1000000)) = false := g
    rw [z, Bool.not_eq_false'] at g
    have c1 := of_decide_eq_true g
    intro _
    refine len_test _ _ _ ?_
    intro _; refine ⟨fun g => ?_, fun g => ?_⟩
    · have g : (!decide (0 ≤ fh l (0 + k) ∧ fh l (0 + k) ≤ 1000000)) = true := g
      rw [z, Bool.not_eq_true'] at g
      have g := of_decide_eq_false g
      intro _
      exact ⟨false, .inl rfl, by rw [bad (fun h => g h.2.2.2.1)], rfl⟩
    have g : (!decide (0 ≤ fh l (0 + k) ∧ fh l (0 + k) ≤ 1000000)) = false := g
    rw [z, Bool.not_eq_false'] at g
    have c2 := of_decide_eq_true g
    intro _
    refine high_test _ _ _ ?_
    intro _; refine ⟨fun g => ?_, fun g => ?_⟩
    · have g : (!decide (0 ≤ fy l (0 + k) ∧ fy l (0 + k) ≤ 1000000000)) = true := g
      rw [z, Bool.not_eq_true'] at g
      have g := of_decide_eq_false g
      intro _
      exact ⟨false, .inl rfl, by rw [bad (fun h => g h.2.2.2.2)], rfl⟩
    have g : (!decide (0 ≤ fy l (0 + k) ∧ fy l (0 + k) ≤ 1000000000)) = false := g
    rw [z, Bool.not_eq_false'] at g
    have c3 := of_decide_eq_true g
    refine ⟨⟨k + 1, by omega, vidx_succ hmk ⟨.inl s1, c0, c1, c2, c3⟩⟩, by simp; omega, th [] 1, rfl, rfl, rfl, rfl, rfl, rfl, ?_, ?_⟩
    · (repeat' first | exact trivial | exact rfl | refine And.intro ?_ ?_)
      exact (wrap_nat k (by omega)).symm
    · (repeat' first | exact trivial | exact rfl | refine And.intro ?_ ?_)
theorem rvalid_ok (l : Rows) (W : Int) (hl : l.length ≤ 9223372036854775807) : SemF Try.prog 13 [.slc 0 5 0 l.length, .int .i64 W] ⟨1, 1, [(0, .arr [.int .i64, .int .i64, .int .i64, .int .i64, .int .i64] .rd (.recs l))]⟩ (fun v _ => v = .test (decide (Vd l W)) ∧ nameless v = true) := by
  refine SemF.test ?_
  refine enter tt_ok Try.func13 (nt := 80) (cd := body Try.f13) rfl rfl rfl rfl ?_
  intro _
  refine rlen_test _ _ _ ?_
  intro _; refine ⟨fun g => ?_, fun g => ?_⟩
  · have g : (!decide (0 ≤ W ∧ W ≤ 1000000)) = true := g
    rw [Bool.not_eq_true'] at g
    have g := of_decide_eq_false g
    intro _
    exact ⟨false, .inl rfl, by rw [decide_eq_false (fun h : Vd l W => g h.1.2)], rfl⟩
  have g : (!decide (0 ≤ W ∧ W ≤ 1000000)) = false := g
  rw [Bool.not_eq_false'] at g
  have hW := of_decide_eq_true g
  intro _; refine ⟨fun g => ?_, fun g => ?_⟩
  · have g := of_decide_eq_true (show decide ((l.length : Int) > 200) = true from g)
    intro _
    exact ⟨false, .inl rfl, by rw [decide_eq_false (fun h : Vd l W => by have := h.1.1; omega)], rfl⟩
  have g1 := of_decide_eq_false (show decide ((l.length : Int) > 200) = false from g)
  intro _
  refine loop2 tt_ok [6] [] 1 (fun k : VIdx l => [(6, .int .i64 (k : Nat))]) (fun _ => []) (fun k => l.length - k) ⟨0, by omega, fun i h => by omega⟩ ?_
  intro _
  refine ⟨⟨th [] 1, rfl, rfl, rfl, rfl, rfl, rfl, ?_, ?_⟩, ?_⟩
  · (repeat' first | exact trivial | exact rfl | refine And.intro ?_ ?_)
  · (repeat' first | exact trivial | exact rfl | refine And.intro ?_ ?_)
  intro ⟨k, hk, hmk⟩
  have z : 0 + k = k := Nat.zero_add k
  intro _; refine ⟨fun g => ?_, fun g => ?_⟩
  rotate_left
  · have hkl := of_decide_eq_false (show decide ((k : Int) < (l.length : Int)) = false from g)
    have hkl : k = l.length := by omega
    subst hkl
    intro _
    exact ⟨true, .inl rfl, by rw [decide_eq_true (show Vd l W from ⟨⟨by omega, hW⟩, hmk⟩)], rfl⟩
  have hkl := of_decide_eq_true (show decide ((k : Int) < (l.length : Int)) = true from g)
  have bad : ¬ Fl l k → decide (Vd l W) = false := fun h => decide_eq_false (fun hv => h (hv.2 k (by omega)))
  have i1 : 0 ≤ (k : Int) ∧ (k : Int) < (l.length : Int) := by omega
  have i2 : 0 + (k : Int).toNat < l.length := by omega
  intro _; refine ⟨i1, ?_⟩
  intro _; refine ⟨i2, ?_⟩
  intro _
  refine rlen_test _ _ _ ?_
  intro _; refine ⟨i1, ?_⟩
  intro _; refine ⟨i2, ?_⟩
  intro _
  refine rhigh_test _ _ _ ?_
  intro _; refine ⟨i1, ?_⟩
  intro _; refine ⟨i2, ?_⟩
  intro _
  refine rlen_test _ _ _ ?_
  intro _; refine ⟨i1, ?_⟩
  intro _; refine ⟨i2, ?_⟩
  intro _
  refine rlen_test _ _ _ ?_
  intro _; refine ⟨fun g => ?_, fun g => ?_⟩
  · have g : (!decide (0 ≤ fx l (0 + k) ∧ fx l (0 + k) ≤ 1000000)) = true := g
    rw [z, Bool.not_eq_true'] at g
    have g := of_decide_eq_false g
    intro _
    exact ⟨false, .inl rfl, by rw [bad (fun h => g h.2.1)], rfl⟩
  have g : (!decide (0 ≤ fx l (0 + k) ∧ fx l (0 + k) ≤ 1000000)) = false := g
  rw [z, Bool.not_eq_false'] at g
  have c0 := of_decide_eq_true g
  intro _; refine ⟨fun g => ?_, fun g => ?_⟩
  · have g : (!decide (0 ≤ fy l (0 + k) ∧ fy l (0 + k) ≤ 1000000000)) = true := g
    rw [z, Bool.not_eq_true'] at g
    have g := of_decide_eq_false g
    intro _
    exact ⟨false, .inl rfl, by rw [bad (fun h => g h.2.2.2.2)], rfl⟩
  have g : (!decide (0 ≤ fy l (0 + k) ∧ fy l (0 + k) ≤ 1000000000)) = false := g
  rw [z, Bool.not_eq_false'] at g
  have c1 := of_decide_eq_true g
  intro _; refine ⟨fun g => ?_, fun g => ?_⟩
  · have g : (!decide (0 ≤ fw l (0 + k) ∧ fw l (0 + k) ≤ 1000000)) = true := g
    rw [z, Bool.not_eq_true'] at g
    have g := of_decide_eq_false g
    intro _
    exact ⟨false, .inl rfl, by rw [bad (fun h => g h.2.2.1)], rfl⟩
  have g : (!decide (0 ≤ fw l (0 + k) ∧ fw l (0 + k) ≤ 1000000)) = false := g
  rw [z, Bool.not_eq_false'] at g
  have c2 := of_decide_eq_true g
  intro _; refine ⟨fun g => ?_, fun g => ?_⟩
  · have g : (!decide (0 ≤ fh l (0 + k) ∧ fh l (0 + k) ≤ 1000000)) = true := g
    rw [z, Bool.not_eq_true'] at g
    have g := of_decide_eq_false g
    intro _
    exact ⟨false, .inl rfl, by rw [bad (fun h => g h.2.2.2.1)], rfl⟩
  have g : (!decide (0 ≤ fh l (0 + k) ∧ fh l (0 + k) ≤ 1000000)) = false := g
  rw [z, Bool.not_eq_false'] at g
  have c3 := of_decide_eq_true g
  intro _; refine ⟨i1, ?_⟩
  intro _; refine ⟨i2, ?_⟩
  intro _; refine ⟨fun g => ?_, fun g => ?_⟩
  · have g : decide (sd l (0 + k) < 1) = true := g
    rw [z] at g
    have g := of_decide_eq_true g
    intro _
    exact ⟨false, .inl rfl, by rw [bad (fun h => by have := h.1; omega)], rfl⟩
  have g : decide (sd l (0 + k) < 1) = false := g
  rw [z] at g
  have s1 := of_decide_eq_false g
  intro _; refine ⟨i1, ?_⟩
  intro _; refine ⟨i2, ?_⟩
  intro _; refine ⟨fun g => ?_, fun g => ?_⟩
  · have g : decide (sd l (0 + k) > 2) = true := g
    rw [z] at g
    have g := of_decide_eq_true g
    intro _
    exact ⟨false, .inl rfl, by rw [bad (fun h => by have := h.1; omega)], rfl⟩
  have g : decide (sd l (0 + k) > 2) = false := g
  rw [z] at g
  have s2 := of_decide_eq_false g
  refine ⟨⟨k + 1, by omega, vidx_succ hmk ⟨by omega, c0, c2, c3, c1⟩⟩, by simp; omega, th [] 1, rfl, rfl, rfl, rfl, rfl, rfl, ?_, ?_⟩
  · (repeat' first | exact trivial | exact rfl | refine And.intro ?_ ?_)
    exact (wrap_nat k (by omega)).symm
  · (repeat' first | exact trivial | exact rfl | refine And.intro ?_ ?_)
theorem bottom_ok (a b c d e : Int) : SemF Try.prog 28 [.agg [.int .i64 a, .int .i64 b, .int .i64 c, .int .i64 d, .int .i64 e]] ⟨0, 0, []⟩ (fun v _ => v = .int .i64 (IntKind.i64.wrap (c + e)) ∧ nameless v = true) := by
  refine enter tt_ok Try.func28 (nt := 10) (cd := body Try.f28) rfl rfl rfl rfl ?_
  intro _
  exact ⟨rfl, rfl⟩
theorem far_ok (a b c d e : Int) : SemF Try.prog 32 [.agg [.int .i64 a, .int .i64 b, .int .i64 c, .int .i64 d, .int .i64 e]] ⟨0, 0, []⟩ (fun v _ => v = .int .i64 (IntKind.i64.wrap (b + d)) ∧ nameless v = true) := by
  refine enter tt_ok Try.func32 (nt := 10) (cd := body Try.f32) rfl rfl rfl rfl ?_
  intro _
  exact ⟨rfl, rfl⟩
theorem has_ok (y h a b c d e : Int) : SemF Try.prog 31 [.agg [.int .i64 y, .int .i64 h], .agg [.int .i64 a, .int .i64 b, .int .i64 c, .int .i64 d, .int .i64 e]] ⟨0, 0, []⟩ (fun v _ => v = .test (decide (e > 0 ∧ c < IntKind.i64.wrap (y + max h 1) ∧ IntKind.i64.wrap (c + e) > y)) ∧ nameless v = true) := by
  refine SemF.test ?_
  refine enter tt_ok Try.func31 (nt := 27) (cd := body Try.f31) rfl rfl rfl rfl ?_
  intro _; refine ⟨fun g => ?_, fun g => ?_⟩
  rotate_left
  · have g := of_decide_eq_false (show decide (e > 0) = false from g)
    intro _; refine ⟨by kernel_rfl, ?_⟩
    intro _
    exact ⟨false, .inl rfl, by rw [decide_eq_false (fun h => g h.1)], rfl⟩
  have g1 := of_decide_eq_true (show decide (e > 0) = true from g)
  intro _; refine ⟨fun g => ?_, fun g => ?_⟩
  rotate_left
  · have g := of_decide_eq_false (show decide (c < IntKind.i64.wrap (y + max h 1)) = false from g)
    intro _; refine ⟨by kernel_rfl, ?_⟩
    intro _
    exact ⟨false, .inl rfl, by rw [decide_eq_false (fun h => g h.2.1)], rfl⟩
  have g2 := of_decide_eq_true (show decide (c < IntKind.i64.wrap (y + max h 1)) = true from g)
  intro _
  refine Or.inl ?_
  intro _
  refine call_pure [] (bottom_ok a b c d e) rfl rfl rfl ?_ ?_ ?_
  · (repeat' first | exact trivial | exact rfl | refine And.intro ?_ ?_)
  · (repeat' first | exact trivial | exact rfl | refine And.intro ?_ ?_)
  intro v hv _
  subst hv
  intro _; refine ⟨by kernel_rfl, ?_⟩
  intro _
  refine ⟨_, .inr rfl, ?_, rfl⟩
  by_cases e : IntKind.i64.wrap (c + e) > y
  · rw [decide_eq_true e, decide_eq_true ⟨g1, g2, e⟩]
  · rw [decide_eq_false e, decide_eq_false (fun h => e h.2.2)]
def hs (l : Rows) (y h : Int) (i : Nat) : Bool := decide (fh l i > 0 ∧ fy l i < y + max h 1 ∧ fy l i + fh l i > y)
def Lo (l : Rows) (y h : Int) : Nat → Int
  | 0 => 0
  | k + 1 => if hs l y h k = true ∧ sd l k = 1 then max (Lo l y h k) (fx l k + fw l k) else Lo l y h k
def Hi (l : Rows) (W y h : Int) : Nat → Int
  | 0 => W
  | k + 1 => if hs l y h k = true ∧ sd l k ≠ 1 then min (Hi l W y h k) (fx l k) else Hi l W y h k
def Fr (l : Rows) (y h : Int) : Nat → Bool
  | 0 => true
  | k + 1 => !hs l y h k && Fr l y h k
theorem room_ok2 (l : Rows) (W y h : Int) (hl : l.length ≤ 9223372036854775807) (hV : Vd l W) (hy : 0 ≤ y ∧ y ≤ 1001000000) (hh : 0 ≤ h ∧ h ≤ 1000000) : SemF Try.prog 24 [.slc 0 5 0 l.length, .int .i64 W, .agg [.int .i64 y, .int .i64 h]] ⟨1, 1, [(0, .arr [.int .i64, .int .i64, .int .i64, .int .i64, .int .i64] .rd (.recs l))]⟩ (fun v _ => v = .tup [.agg [.int .i64 (Lo l y h l.length), .int .i64 (max (Hi l W y h l.length) (Lo l y h l.length))], .test (Fr l y h l.length)] ∧ nameless v = true) := by
  obtain ⟨⟨h200, hW⟩, hF⟩ := hV
  refine enter tt_ok Try.func24 (nt := 52) (cd := body Try.f24) rfl rfl rfl rfl ?_
  intro _
  refine loop2 tt_ok [19, 10] [3] 4 (fun k : { k : Nat // k ≤ l.length } => [(19, .int .i64 (k : Nat)), (10, .test (Fr l y h k))]) (fun k => [(3, .cells [.int .i64 (Lo l y h k), .int .i64 (Hi l W y h k)])]) (fun k => l.length - k) ⟨0, by omega⟩ ?_
  intro _
  refine ⟨⟨th [] 4, rfl, rfl, rfl, rfl, rfl, rfl, ?_, ?_⟩, ?_⟩
  · (repeat' first | exact trivial | exact rfl | refine And.intro ?_ ?_)
  · (repeat' first | exact trivial | exact rfl | refine And.intro ?_ ?_)
  intro ⟨k, hk⟩
  have z : 0 + k = k := Nat.zero_add k
  intro _; refine ⟨fun g => ?_, fun g => ?_⟩
  rotate_left
  · have hkl := of_decide_eq_false (show decide ((k : Int) < (l.length : Int)) = false from g)
    have hkl : k = l.length := by omega
    subst hkl
    intro _
    exact ⟨rfl, rfl⟩
  have hkl := of_decide_eq_true (show decide ((k : Int) < (l.length : Int)) = true from g)
  intro _; refine ⟨show 0 ≤ (k : Int) ∧ (k : Int) < (l.length : Int) by omega, ?_⟩
  intro _; refine ⟨show 0 + (k : Int).toNat < l.length by omega, ?_⟩
  obtain ⟨f0, f1, f2, f3, f4⟩ := hF k (by omega)
  have eh : (decide (fh l (0 + k) > 0 ∧ fy l (0 + k) < IntKind.i64.wrap (y + max h 1) ∧ IntKind.i64.wrap (fy l (0 + k) + fh l (0 + k)) > y)) = hs l y h k := by
    rw [z, wrapS _ ⟨by omega, by omega⟩, wrapS _ ⟨by omega, by omega⟩]; rfl
  have ek := (wrap_nat k (by omega)).symm
  intro _
  refine call_pure [] (has_ok y h (sd l (0 + k)) (fx l (0 + k)) (fy l (0 + k)) (fw l (0 + k)) (fh l (0 + k))) rfl rfl rfl ?_ ?_ ?_
  · (repeat' first | exact trivial | exact rfl | refine And.intro ?_ ?_)
  · (repeat' first | exact trivial | exact rfl | refine And.intro ?_ ?_)
  intro v hv _
  subst hv
  intro _; refine ⟨fun g => ?_, fun g => ?_⟩
  · have g : (!(decide (fh l (0 + k) > 0 ∧ fy l (0 + k) < IntKind.i64.wrap (y + max h 1) ∧ IntKind.i64.wrap (fy l (0 + k) + fh l (0 + k)) > y))) = true := g
    rw [eh, Bool.not_eq_true'] at g
    refine ⟨⟨k + 1, by omega⟩, by simp; omega, th [] 4, rfl, rfl, rfl, rfl, rfl, rfl, ?_, ?_⟩
    · (repeat' first | exact trivial | exact rfl | refine And.intro ?_ ?_)
      · exact ek
      · show (!hs l y h k && Fr l y h k) = Fr l y h k
        rw [g]; rfl
    · (repeat' first | exact trivial | exact rfl | refine And.intro ?_ ?_)
      · show Lo l y h (k + 1) = Lo l y h k
        show (if hs l y h k = true ∧ sd l k = 1 then max (Lo l y h k) (fx l k + fw l k) else Lo l y h k) = _; rw [if_neg (by rw [g]; simp)]
      · show Hi l W y h (k + 1) = Hi l W y h k
        show (if hs l y h k = true ∧ sd l k ≠ 1 then min (Hi l W y h k) (fx l k) else Hi l W y h k) = _; rw [if_neg (by rw [g]; simp)]
  have g : (!(decide (fh l (0 + k) > 0 ∧ fy l (0 + k) < IntKind.i64.wrap (y + max h 1) ∧ IntKind.i64.wrap (fy l (0 + k) + fh l (0 + k)) > y))) = false := g
  rw [eh, Bool.not_eq_false'] at g
  have hh1 := g
  have eF : IntKind.i64.wrap (fx l (0 + k) + fw l (0 + k)) = fx l k + fw l k := by rw [z]; exact wrapS _ ⟨by omega, by omega⟩
  intro _; refine ⟨fun g => ?_, fun g => ?_⟩
  · have g : (sd l (0 + k) == 1) = true := g
    rw [z] at g
    have s1 : sd l k = 1 := by simpa using g
    intro _
    refine Or.inl ?_
    intro _
    refine call_pure [] (far_ok (sd l (0 + k)) (fx l (0 + k)) (fy l (0 + k)) (fw l (0 + k)) (fh l (0 + k))) rfl rfl rfl ?_ ?_ ?_
    · (repeat' first | exact trivial | exact rfl | refine And.intro ?_ ?_)
    · (repeat' first | exact trivial | exact rfl | refine And.intro ?_ ?_)
    intro v hv _
    subst hv
    intro _; refine ⟨by kernel_rfl, ?_⟩
    refine ⟨⟨k + 1, by omega⟩, by simp; omega, th [] 4, rfl, rfl, rfl, rfl, rfl, rfl, ?_, ?_⟩
    · (repeat' first | exact trivial | exact rfl | refine And.intro ?_ ?_)
      · exact ek
      · show (!hs l y h k && Fr l y h k) = false
        rw [hh1]; rfl
    · (repeat' first | exact trivial | exact rfl | refine And.intro ?_ ?_)
      · show (if hs l y h k = true ∧ sd l k = 1 then max (Lo l y h k) (fx l k + fw l k) else Lo l y h k) = max (Lo l y h k) (IntKind.i64.wrap (fx l (0 + k) + fw l (0 + k)))
        rw [if_pos ⟨hh1, s1⟩, eF]
      · show (if hs l y h k = true ∧ sd l k ≠ 1 then min (Hi l W y h k) (fx l k) else Hi l W y h k) = _; rw [if_neg (fun h => h.2 s1)]
  · have g : (sd l (0 + k) == 1) = false := g
    rw [z] at g
    have s1 : sd l k ≠ 1 := by simpa using g
    refine ⟨⟨k + 1, by omega⟩, by simp; omega, th [] 4, rfl, rfl, rfl, rfl, rfl, rfl, ?_, ?_⟩
    · (repeat' first | exact trivial | exact rfl | refine And.intro ?_ ?_)
      · exact ek
      · show (!hs l y h k && Fr l y h k) = false
        rw [hh1]; rfl
    · (repeat' first | exact trivial | exact rfl | refine And.intro ?_ ?_)
      · show (if hs l y h k = true ∧ sd l k = 1 then max (Lo l y h k) (fx l k + fw l k) else Lo l y h k) = _; rw [if_neg (fun h => s1 h.2)]
      · show (if hs l y h k = true ∧ sd l k ≠ 1 then min (Hi l W y h k) (fx l k) else Hi l W y h k) = min (Hi l W y h k) (fx l (0 + k)); rw [if_pos ⟨hh1, s1⟩, z]
theorem room_ok (l : Rows) (W y h : Int) (hl : l.length ≤ 9223372036854775807) (hV : Vd l W) (hy : 0 ≤ y ∧ y ≤ 1000000000) (hh : 0 ≤ h ∧ h ≤ 1000000) : SemF Try.prog 24 [.slc 0 5 0 l.length, .int .i64 W, .agg [.int .i64 y, .int .i64 h]] ⟨1, 1, [(0, .arr [.int .i64, .int .i64, .int .i64, .int .i64, .int .i64] .rd (.recs l))]⟩ (fun v _ => v = .tup [.agg [.int .i64 (Lo l y h l.length), .int .i64 (max (Hi l W y h l.length) (Lo l y h l.length))], .test (Fr l y h l.length)] ∧ nameless v = true) := room_ok2 l W y h hl hV ⟨hy.1, by omega⟩ hh
def Rm (l : Rows) (W y h : Int) : Prop := Vd l W ∧ (0 ≤ y ∧ y ≤ 1000000000) ∧ (0 ≤ h ∧ h ≤ 1000000)
instance decRm (l : Rows) (W y h : Int) : Decidable (Rm l W y h) := inferInstanceAs (Decidable (_ ∧ _))
def RQ (l : Rows) (W y h : Int) : V := if Rm l W y h then .tup [.agg [.int .i64 (Lo l y h l.length), .int .i64 (max (Hi l W y h l.length) (Lo l y h l.length))], .int .i64 0] else .tup [.agg [.int .i64 0, .int .i64 0], .int .i64 1]
theorem Room_ok (l : Rows) (W y h : Int) (hl : l.length ≤ 9223372036854775807) : SemF Try.prog 10 [.slc 0 5 0 l.length, .int .i64 W, .int .i64 y, .int .i64 h] ⟨1, 1, [(0, .arr [.int .i64, .int .i64, .int .i64, .int .i64, .int .i64] .rd (.recs l))]⟩ (fun v _ => v = RQ l W y h ∧ nameless v = true) := by
  refine enter tt_ok Try.func10 (nt := 37) (cd := body Try.f10) rfl rfl rfl rfl ?_
  intro _
  refine call_pure [(0, some 0)] (valid_ok l W hl) rfl rfl rfl ?_ ?_ ?_
  · (repeat' first | exact trivial | exact rfl | refine And.intro ?_ ?_)
  · (repeat' first | exact trivial | exact rfl | refine And.intro ?_ ?_)
  intro v hv _
  subst hv
  have bad : ¬ Rm l W y h → RQ l W y h = .tup [.agg [.int .i64 0, .int .i64 0], .int .i64 1] := fun e => by unfold RQ; rw [if_neg e]
  intro _; refine ⟨fun g => ?_, fun g => ?_⟩
  · have g : (!decide (Vd l W)) = true := g
    rw [Bool.not_eq_true'] at g
    have g := of_decide_eq_false g
    intro _
    rw [bad (fun e => g e.1)]
    exact ⟨rfl, rfl⟩
  have g : (!decide (Vd l W)) = false := g
  rw [Bool.not_eq_false'] at g
  have hV := of_decide_eq_true g
  intro _
  refine high_test _ _ _ ?_
  intro _; refine ⟨fun g => ?_, fun g => ?_⟩
  · have g : (!decide (0 ≤ y ∧ y ≤ 1000000000)) = true := g
    rw [Bool.not_eq_true'] at g
    have g := of_decide_eq_false g
    intro _
    rw [bad (fun e => g e.2.1)]
    exact ⟨rfl, rfl⟩
  have g : (!decide (0 ≤ y ∧ y ≤ 1000000000)) = false := g
  rw [Bool.not_eq_false'] at g
  have hy := of_decide_eq_true g
  intro _
  refine len_test _ _ _ ?_
  intro _; refine ⟨fun g => ?_, fun g => ?_⟩
  · have g : (!decide (0 ≤ h ∧ h ≤ 1000000)) = true := g
    rw [Bool.not_eq_true'] at g
    have g := of_decide_eq_false g
    intro _
    rw [bad (fun e => g e.2.2)]
    exact ⟨rfl, rfl⟩
  have g : (!decide (0 ≤ h ∧ h ≤ 1000000)) = false := g
  rw [Bool.not_eq_false'] at g
  have hh := of_decide_eq_true g
  intro _
  refine call_pure [(0, some 0)] (room_ok l W y h hl hV hy hh) rfl rfl rfl ?_ ?_ ?_
  · (repeat' first | exact trivial | exact rfl | refine And.intro ?_ ?_)
  · (repeat' first | exact trivial | exact rfl | refine And.intro ?_ ?_)
  intro v hv _
  subst hv
  intro _
  have e : RQ l W y h = .tup [.agg [.int .i64 (Lo l y h l.length), .int .i64 (max (Hi l W y h l.length) (Lo l y h l.length))], .int .i64 0] := by unfold RQ; rw [if_pos ⟨hV, hy, hh⟩]
  rw [e]
  exact ⟨rfl, rfl⟩
def bt (l : Rows) : Nat → Int
  | 0 => 0
  | k + 1 => max (bt l k) (fy l k + fh l k)
theorem bt_bd {l : Rows} : ∀ k, (∀ i, i < k → Fl l i) → 0 ≤ bt l k ∧ bt l k ≤ 1001000000
  | 0, _ => by simp [bt]
  | k + 1, h => by
    have := bt_bd k (fun i hi => h i (by omega))
    obtain ⟨f0, f1, f2, f3, f4⟩ := h k (by omega)
    simp only [bt]; omega
theorem bt_le {l : Rows} : ∀ k, ∀ i, i < k → fy l i + fh l i ≤ bt l k
  | 0, i, h => by omega
  | k + 1, i, h => by
    simp only [bt]
    by_cases e : i = k
    · subst e; omega
    · have := bt_le (l := l) k i (by omega); omega
theorem below_ok (l : Rows) (W : Int) (hl : l.length ≤ 9223372036854775807) (hV : Vd l W) : SemF Try.prog 14 [.slc 0 5 0 l.length, .int .i64 W, .int .i64 0] ⟨1, 1, [(0, .arr [.int .i64, .int .i64, .int .i64, .int .i64, .int .i64] .rd (.recs l))]⟩ (fun v _ => v = .tup [.int .i64 (bt l l.length), .int .i64 0] ∧ nameless v = true) := by
  refine enter tt_ok Try.func14 (nt := 44) (cd := body Try.f14) rfl rfl rfl rfl ?_
  intro _
  refine call_pure [(0, some 0)] (valid_ok l W hl) rfl rfl rfl ?_ ?_ ?_
  · (repeat' first | exact trivial | exact rfl | refine And.intro ?_ ?_)
  · (repeat' first | exact trivial | exact rfl | refine And.intro ?_ ?_)
  intro v hv _
  subst hv
  intro _; refine ⟨fun g => ?_, fun g => ?_⟩
  · exfalso
    have g : (!decide (Vd l W)) = true := g
    rw [decide_eq_true hV] at g
    simp at g
  obtain ⟨⟨h200, hW⟩, hF⟩ := hV
  intro _
  refine ⟨fun g => absurd g (by decide), fun _ => ?_⟩
  intro _; refine ⟨fun g => absurd g (by decide), fun _ => ?_⟩
  intro _
  refine loop2 tt_ok [25, 8] [] 1 (fun k : { k : Nat // k ≤ l.length } => [(25, .int .i64 (k : Nat)), (8, .int .i64 (bt l k))]) (fun k => []) (fun k => l.length - k) ⟨0, by omega⟩ ?_
  intro _
  refine ⟨⟨th [] 1, rfl, rfl, rfl, rfl, rfl, rfl, ?_, ?_⟩, ?_⟩
  · (repeat' first | exact trivial | exact rfl | refine And.intro ?_ ?_)
  · (repeat' first | exact trivial | exact rfl | refine And.intro ?_ ?_)
  intro ⟨k, hk⟩
  have z : 0 + k = k := Nat.zero_add k
  intro _; refine ⟨fun g => ?_, fun g => ?_⟩
  rotate_left
  · have hkl := of_decide_eq_false (show decide ((k : Int) < (l.length : Int)) = false from g)
    have hkl : k = l.length := by omega
    subst hkl
    intro _
    exact ⟨rfl, rfl⟩
  have hkl := of_decide_eq_true (show decide ((k : Int) < (l.length : Int)) = true from g)
  intro _; refine ⟨show 0 ≤ (k : Int) ∧ (k : Int) < (l.length : Int) by omega, ?_⟩
  intro _; refine ⟨show 0 + (k : Int).toNat < l.length by omega, ?_⟩
  obtain ⟨f0, f1, f2, f3, f4⟩ := hF k (by omega)
  have eF : IntKind.i64.wrap (fy l (0 + k) + fh l (0 + k)) = fy l k + fh l k := by rw [z]; exact wrapS _ ⟨by omega, by omega⟩
  have ek := (wrap_nat k (by omega)).symm
  intro _; refine ⟨fun _ => ?_, fun g => absurd g (by decide)⟩
  intro _
  refine call_pure [] (bottom_ok (sd l (0 + k)) (fx l (0 + k)) (fy l (0 + k)) (fw l (0 + k)) (fh l (0 + k))) rfl rfl rfl ?_ ?_ ?_
  · (repeat' first | exact trivial | exact rfl | refine And.intro ?_ ?_)
  · (repeat' first | exact trivial | exact rfl | refine And.intro ?_ ?_)
  intro v hv _
  subst hv
  refine ⟨⟨k + 1, by omega⟩, by simp; omega, th [] 1, rfl, rfl, rfl, rfl, rfl, rfl, ?_, ?_⟩
  · (repeat' first | exact trivial | exact rfl | refine And.intro ?_ ?_)
    · exact ek
    · show max (bt l k) (fy l k + fh l k) = max (bt l k) (IntKind.i64.wrap (fy l (0 + k) + fh l (0 + k)))
      rw [eF]
  · (repeat' first | exact trivial | exact rfl | refine And.intro ?_ ?_)
theorem parts_has (l : Rows) (y a b : Int) (ha : 1 ≤ a) (hb : 1 ≤ b) (i : Nat) : hs l y (a + b) i = (hs l y a i || hs l (y + a) b i) := by
  unfold hs
  rw [← Bool.decide_or, decide_eq_decide]
  constructor
  · intro ⟨p, q, r⟩
    by_cases e : fy l i < y + a
    · exact .inl ⟨p, by omega, r⟩
    · exact .inr ⟨p, by omega, by omega⟩
  · rintro (⟨p, q, r⟩ | ⟨p, q, r⟩)
    · exact ⟨p, by omega, r⟩
    · exact ⟨p, by omega, by omega⟩
theorem parts_lo (l : Rows) (y a b : Int) (ha : 1 ≤ a) (hb : 1 ≤ b) : ∀ k, Lo l y (a + b) k = max (Lo l y a k) (Lo l (y + a) b k)
  | 0 => by simp [Lo]
  | k + 1 => by
    have ih := parts_lo l y a b ha hb k
    have e := parts_has l y a b ha hb k
    simp only [Lo, e, ih]
    by_cases s : sd l k = 1 <;> cases hs l y a k <;> cases hs l (y + a) b k <;> simp [s] <;> omega
theorem parts_hi (l : Rows) (W y a b : Int) (ha : 1 ≤ a) (hb : 1 ≤ b) : ∀ k, Hi l W y (a + b) k = min (Hi l W y a k) (Hi l W (y + a) b k)
  | 0 => by simp [Hi]
  | k + 1 => by
    have ih := parts_hi l W y a b ha hb k
    have e := parts_has l y a b ha hb k
    simp only [Hi, e, ih]
    by_cases s : sd l k = 1 <;> cases hs l y a k <;> cases hs l (y + a) b k <;> simp [s] <;> omega
theorem below_none (l : Rows) (y h : Int) : ∀ k, (∀ i, i < k → hs l y h i = false) → Lo l y h k = 0 ∧ ∀ W, Hi l W y h k = W
  | 0, _ => ⟨rfl, fun _ => rfl⟩
  | k + 1, hn => by
    obtain ⟨e1, e2⟩ := below_none l y h k (fun i hi => hn i (by omega))
    have := hn k (by omega)
    refine ⟨?_, fun W => ?_⟩
    · simp only [Lo, this, e1]; simp
    · simp only [Hi, this, e2]; simp
theorem RQ_ok {l : Rows} {W y h : Int} (e : Rm l W y h) : RQ l W y h = .tup [.agg [.int .i64 (Lo l y h l.length), .int .i64 (max (Hi l W y h l.length) (Lo l y h l.length))], .int .i64 0] := by unfold RQ; rw [if_pos e]
theorem beside_ok (y h a b c d e : Int) : SemF Try.prog 21 [.agg [.int .i64 a, .int .i64 b, .int .i64 c, .int .i64 d, .int .i64 e], .int .i64 y, .int .i64 h] ⟨0, 0, []⟩ (fun v _ => v = .test (decide (e > 0 ∧ c < IntKind.i64.wrap (y + max h 1) ∧ IntKind.i64.wrap (c + e) > y)) ∧ nameless v = true) := by
  refine SemF.test ?_
  refine enter tt_ok Try.func21 (nt := 28) (cd := body Try.f21) rfl rfl rfl rfl ?_
  intro _; refine ⟨fun g => ?_, fun g => ?_⟩
  rotate_left
  · have g := of_decide_eq_false (show decide (e > 0) = false from g)
    intro _
    exact ⟨false, .inl rfl, by rw [decide_eq_false (fun h => g h.1)], rfl⟩
  have g1 := of_decide_eq_true (show decide (e > 0) = true from g)
  intro _; refine ⟨fun g => ?_, fun g => ?_⟩
  rotate_left
  · have g := of_decide_eq_false (show decide (c < IntKind.i64.wrap (y + max h 1)) = false from g)
    intro _
    exact ⟨false, .inl rfl, by rw [decide_eq_false (fun h => g h.2.1)], rfl⟩
  have g2 := of_decide_eq_true (show decide (c < IntKind.i64.wrap (y + max h 1)) = true from g)
  intro _
  refine ⟨_, .inr rfl, ?_, rfl⟩
  by_cases e : IntKind.i64.wrap (c + e) > y
  · rw [decide_eq_true e, decide_eq_true ⟨g1, g2, e⟩]
  · rw [decide_eq_false e, decide_eq_false (fun h => e h.2.2)]
def fr (f : Nat → Int) : List D := [D.n (f 0), D.n (f 1), D.n (f 2), D.n (f 3), D.n (f 4)]
theorem app_len (l : Rows) (r : List D) : (l ++ [r]).length = l.length + 1 := by simp
theorem app_get {l : Rows} {r : List D} {i : Nat} (h : i < l.length) : (l ++ [r]).getD i [] = l.getD i [] := by
  rw [List.getD_eq_getElem?_getD, List.getD_eq_getElem?_getD, List.getElem?_append_left h]
theorem app_last {l : Rows} {r : List D} : (l ++ [r]).getD l.length [] = r := by
  rw [List.getD_eq_getElem?_getD, List.getElem?_append_right (Nat.le_refl _)]; simp
theorem app_lo {l : Rows} {r : List D} {y h : Int} : ∀ k, k ≤ l.length → Lo (l ++ [r]) y h k = Lo l y h k
  | 0, _ => rfl
  | k + 1, hk => by
    have e := app_get (l := l) (r := r) (show k < l.length by omega)
    simp only [Lo]
    rw [app_lo k (by omega)]
    unfold hs sd fx fw fy fh
    rw [e]
theorem app_hi {l : Rows} {r : List D} {W y h : Int} : ∀ k, k ≤ l.length → Hi (l ++ [r]) W y h k = Hi l W y h k
  | 0, _ => rfl
  | k + 1, hk => by
    have e := app_get (l := l) (r := r) (show k < l.length by omega)
    simp only [Hi]
    rw [app_hi k (by omega)]
    unfold hs sd fx fy fh
    rw [e]
theorem app_vd {l : Rows} {r : List D} {W : Int} (h : Vd (l ++ [r]) W) : Vd l W := by
  obtain ⟨⟨a, b⟩, c⟩ := h
  rw [app_len] at a
  refine ⟨⟨by omega, b⟩, fun i hi => ?_⟩
  have := c i (by rw [app_len]; omega)
  unfold Fl sd fx fy fw fh at this ⊢
  rw [app_get hi] at this
  exact this
theorem RQ_bad {l : Rows} {W y h : Int} (e : ¬ Rm l W y h) : RQ l W y h = .tup [.agg [.int .i64 0, .int .i64 0], .int .i64 1] := by unfold RQ; rw [if_neg e]
theorem lo_bd {l : Rows} {W y h : Int} (hV : Vd l W) : ∀ k, k ≤ l.length → 0 ≤ Lo l y h k ∧ Lo l y h k ≤ 2000000
  | 0, _ => by simp [Lo]
  | k + 1, hk => by
    have := lo_bd hV (y := y) (h := h) k (by omega)
    obtain ⟨f0, f1, f2, f3, f4⟩ := hV.2 k (by omega)
    simp only [Lo]; split <;> omega
theorem hi_bd {l : Rows} {W y h : Int} (hV : Vd l W) : ∀ k, k ≤ l.length → 0 ≤ Hi l W y h k ∧ Hi l W y h k ≤ 1000000
  | 0, _ => by simp only [Hi]; exact hV.1.2
  | k + 1, hk => by
    have := hi_bd hV (y := y) (h := h) k (by omega)
    obtain ⟨f0, f1, f2, f3, f4⟩ := hV.2 k (by omega)
    simp only [Hi]; split <;> omega
theorem app_room {l : Rows} {f : Nat → Int} {W y h : Int} (hV : Vd (l ++ [fr f]) W) (hy : 0 ≤ y ∧ y ≤ 1000000000) (hh : 0 ≤ h ∧ h ≤ 1000000) :
    (Lo (l ++ [fr f]) y h (l ++ [fr f]).length ≥ Lo l y h l.length) ∧
    (max (Hi (l ++ [fr f]) W y h (l ++ [fr f]).length) (Lo (l ++ [fr f]) y h (l ++ [fr f]).length) - Lo (l ++ [fr f]) y h (l ++ [fr f]).length ≤ max (Hi l W y h l.length) (Lo l y h l.length) - Lo l y h l.length) ∧
    (decide (f 4 > 0 ∧ f 2 < IntKind.i64.wrap (y + max h 1) ∧ IntKind.i64.wrap (f 2 + f 4) > y) = hs (l ++ [fr f]) y h l.length) ∧
    (hs (l ++ [fr f]) y h l.length = false → Lo (l ++ [fr f]) y h (l ++ [fr f]).length = Lo l y h l.length ∧ Hi (l ++ [fr f]) W y h (l ++ [fr f]).length = Hi l W y h l.length) := by
  have hl1 : (l ++ [fr f]).length = l.length + 1 := app_len _ _
  obtain ⟨g0, g1, g2, g3, g4⟩ := hV.2 l.length (by omega)
  have eY : fy (l ++ [fr f]) l.length = f 2 := by unfold fy; rw [app_last]; rfl
  have eH : fh (l ++ [fr f]) l.length = f 4 := by unfold fh; rw [app_last]; rfl
  have k3 : decide (f 4 > 0 ∧ f 2 < IntKind.i64.wrap (y + max h 1) ∧ IntKind.i64.wrap (f 2 + f 4) > y) = hs (l ++ [fr f]) y h l.length := by
    unfold hs; rw [eY, eH]
    rw [eY] at g4; rw [eH] at g3
    rw [wrapS (y + max h 1) ⟨by omega, by omega⟩, wrapS _ ⟨by omega, by omega⟩]
  rw [hl1]
  simp only [Lo, Hi]
  rw [app_lo l.length (Nat.le_refl _), app_hi l.length (Nat.le_refl _)]
  refine ⟨?_, ?_, k3, fun e => ?_⟩
  · split <;> omega
  · by_cases s : sd (l ++ [fr f]) l.length = 1 <;> cases e : hs (l ++ [fr f]) y h l.length <;> simp [s] <;> omega
  · rw [e]; simp
/-! the heights at which a further one can be -/
def mx (l : Rows) (y : Int) : Nat → Int
  | 0 => y
  | k + 1 => max (mx l y k) (fy l k)
def en (l : Rows) (f : Int) : Nat → List Int
  | 0 => [f]
  | k + 1 => if fy l k + fh l k > f then en l f k ++ [fy l k + fh l k] else en l f k
theorem en_mem {l : Rows} {f v : Int} : ∀ k, v ∈ en l f k ↔ v = f ∨ ∃ i, i < k ∧ v = fy l i + fh l i ∧ v > f
  | 0 => by
    simp only [en, List.mem_singleton]
    exact ⟨fun h => .inl h, fun h => by rcases h with h | ⟨i, h, _⟩; exact h; omega⟩
  | k + 1 => by
    have ih := en_mem (l := l) (f := f) (v := v) k
    have step : (v = f ∨ ∃ i, i < k + 1 ∧ v = fy l i + fh l i ∧ v > f) ↔ ((v = f ∨ ∃ i, i < k ∧ v = fy l i + fh l i ∧ v > f) ∨ (v = fy l k + fh l k ∧ v > f)) := by
      constructor
      · rintro (h | ⟨i, h1, h2⟩)
        · exact .inl (.inl h)
        · by_cases e : i = k
          · subst e; exact .inr h2
          · exact .inl (.inr ⟨i, by omega, h2⟩)
      · rintro ((h | ⟨i, h1, h2⟩) | h)
        · exact .inl h
        · exact .inr ⟨i, by omega, h2⟩
        · exact .inr ⟨k, by omega, h⟩
    rw [step, ← ih]
    by_cases g : fy l k + fh l k > f
    · rw [show en l f (k + 1) = en l f k ++ [fy l k + fh l k] from if_pos g, List.mem_append, List.mem_singleton]
      exact ⟨fun h => h.elim .inl (fun e => .inr ⟨e, by omega⟩), fun h => h.elim .inl (fun e => .inr e.1)⟩
    · rw [show en l f (k + 1) = en l f k from if_neg g]
      exact ⟨.inl, fun h => h.elim id (fun e => absurd (e.1 ▸ e.2) g)⟩
theorem en_len {l : Rows} {f : Int} : ∀ k, (en l f k).length ≤ k + 1
  | 0 => by simp [en]
  | k + 1 => by
    have := en_len (l := l) (f := f) k
    unfold en
    split
    · simp; omega
    · omega
/-- how far a list has been made compact -/
structure CP (s : List Int) (i j : Nat) (d : List Int) : Prop where
  len : d.length = s.length
  pos : 1 ≤ i
  lo : i < j
  jm : j ≤ s.length
  rest : ∀ q, i ≤ q → at' d q = at' s q
  inc : ∀ p q, p < q → q < i → at' d p < at' d q
  mem : ∀ v, (∃ p, p < i ∧ at' d p = v) ↔ (∃ p, p < j ∧ at' s p = v)
  last : at' d (i - 1) = at' s (j - 1)
theorem CP.keep {s : List Int} {i j : Nat} {d : List Int} (h : CP s i j d) (hj : j < s.length) (e : at' s j = at' s (j - 1)) : CP s i (j + 1) d := by
  refine ⟨h.len, h.pos, by have := h.lo; omega, by omega, h.rest, h.inc, fun v => ?_, ?_⟩
  · rw [h.mem v]
    constructor
    · rintro ⟨p, h1, h2⟩; exact ⟨p, by omega, h2⟩
    · rintro ⟨p, h1, h2⟩
      by_cases q : p = j
      · subst q; exact ⟨p - 1, by have := h.lo; omega, by rw [← e]; exact h2⟩
      · exact ⟨p, by omega, h2⟩
  · rw [h.last]; simpa using e.symm
theorem CP.put {s : List Int} {i j : Nat} {d : List Int} (h : CP s i j d) (hs : Sd0 s) (hj : j < s.length) (e : at' s j ≠ at' s (j - 1)) : CP s (i + 1) (j + 1) (d.set i (at' d j)) := by
  have p1 := h.pos
  have p2 := h.lo
  have hil : i < d.length := by rw [h.len]; omega
  have ej : at' d j = at' s j := h.rest j (by omega)
  have A : ∀ k, at' (d.set i (at' d j)) k = if i = k then at' s j else at' d k := fun k => by rw [at_set hil, ej]
  have hlt : at' s (j - 1) < at' s j := by
    have := hs (j - 1) j (by omega) hj
    omega
  refine ⟨by rw [List.length_set]; exact h.len, by omega, by omega, by omega, fun q hq => ?_, fun p q hp hq => ?_, fun v => ?_, ?_⟩
  · rw [A, if_neg (by omega)]; exact h.rest q (by omega)
  · rw [A, A, if_neg (show ¬ i = p by omega)]
    by_cases c : i = q
    · rw [if_pos c]
      by_cases c2 : p = i - 1
      · subst c2; rw [h.last]; exact hlt
      · have := h.inc p (i - 1) (by omega) (by omega)
        rw [h.last] at this; omega
    · rw [if_neg c]; exact h.inc p q hp (by omega)
  · constructor
    · rintro ⟨p, h1, h2⟩
      rw [A] at h2
      by_cases c : i = p
      · rw [if_pos c] at h2; exact ⟨j, by omega, h2⟩
      · rw [if_neg c] at h2
        obtain ⟨q, q1, q2⟩ := (h.mem v).1 ⟨p, by omega, h2⟩
        exact ⟨q, by omega, q2⟩
    · rintro ⟨p, h1, h2⟩
      by_cases c : p = j
      · subst c; exact ⟨i, by omega, by rw [A, if_pos rfl]; exact h2⟩
      · obtain ⟨q, q1, q2⟩ := (h.mem v).2 ⟨p, by omega, h2⟩
        exact ⟨q, by omega, by rw [A, if_neg (by omega)]; exact q2⟩
  · show at' (d.set i (at' d j)) (i + 1 - 1) = at' s (j + 1 - 1)
    rw [show i + 1 - 1 = i by omega, show j + 1 - 1 = j by omega, A, if_pos rfl]
theorem CP.start {s : List Int} {i : Nat} (h : ∀ p q, p < q → q < i → at' s p < at' s q) (h1 : 1 ≤ i) (hi : i < s.length) (e : at' s i = at' s (i - 1)) : CP s i (i + 1) s := by
  refine ⟨rfl, h1, by omega, by omega, fun _ _ => rfl, h, fun v => ?_, by rw [show i + 1 - 1 = i by omega]; exact e.symm⟩
  constructor
  · rintro ⟨p, h1, h2⟩; exact ⟨p, by omega, h2⟩
  · rintro ⟨p, h3, h2⟩
    by_cases c : p = i
    · subst c; exact ⟨p - 1, by omega, by rw [← e]; exact h2⟩
    · exact ⟨p, by omega, h2⟩
theorem zcut_len (l : List Int) (o n : Nat) (h : o + n ≤ l.length) : (zcut l o n).length = l.length := by
  unfold zcut
  simp
  omega
theorem zcut_at (l : List Int) (o n : Nat) (h : o ≤ l.length) (p : Nat) (hp : p < o) : at' (zcut l o n) p = at' l p := by
  unfold zcut at'
  rw [List.getD_eq_getElem?_getD, List.getD_eq_getElem?_getD, List.getElem?_append_left (by rw [List.length_take]; omega), List.getElem?_take_of_lt hp]
def Cand (l : Rows) (f v : Int) : Prop := v = f ∨ ∃ i, i < l.length ∧ v = fy l i + fh l i ∧ v > f
/-- the heights, in their order -/
structure HE (l : Rows) (f : Int) (C : List Int) (e : Nat) : Prop where
  le : e ≤ C.length
  inc : ∀ p q, p < q → q < e → at' C p < at' C q
  mem : ∀ v, (∃ p, p < e ∧ at' C p = v) ↔ Cand l f v
theorem HE.one {l : Rows} {f : Int} (h : en l f l.length = [f]) : HE l f [f] 1 := by
  refine ⟨by simp, fun p q h1 h2 => by omega, fun v => ?_⟩
  have := en_mem (l := l) (f := f) (v := v) l.length
  rw [h, List.mem_singleton] at this
  constructor
  · rintro ⟨p, h1, h2⟩
    obtain rfl : p = 0 := by omega
    exact this.1 h2.symm
  · intro hc
    exact ⟨0, by omega, (this.2 hc).symm⟩
theorem mem_at {s : List Int} {v : Int} : v ∈ s ↔ ∃ p, p < s.length ∧ at' s p = v := by
  rw [List.mem_iff_getElem]
  unfold at'
  constructor
  · rintro ⟨i, h, e⟩; exact ⟨i, h, by rw [List.getD_eq_getElem?_getD, List.getElem?_eq_getElem h]; exact e⟩
  · rintro ⟨i, h, e⟩; exact ⟨i, h, by rw [List.getD_eq_getElem?_getD, List.getElem?_eq_getElem h] at e; exact e⟩
theorem HE.of_inc {l : Rows} {f : Int} {s : List Int} (hp : s.Perm (en l f l.length)) (h : ∀ p q, p < q → q < s.length → at' s p < at' s q) : HE l f s s.length :=
  ⟨Nat.le_refl _, h, fun v => by rw [← mem_at, hp.mem_iff]; exact en_mem _⟩
theorem HE.of_cp {l : Rows} {f : Int} {s d C : List Int} {i : Nat} (hp : s.Perm (en l f l.length)) (h : CP s i s.length d) (hC : C.length = s.length) (hA : ∀ p, p < i → at' C p = at' d p) : HE l f C i := by
  refine ⟨by rw [hC]; have := h.lo; omega, fun p q h1 h2 => by rw [hA p (by omega), hA q h2]; exact h.inc p q h1 h2, fun v => ?_⟩
  rw [show Cand l f v ↔ v ∈ s by rw [hp.mem_iff]; exact (en_mem _).symm, mem_at, ← h.mem v]
  constructor
  · rintro ⟨p, h1, h2⟩; exact ⟨p, h1, by rw [← hA p h1]; exact h2⟩
  · rintro ⟨p, h1, h2⟩; exact ⟨p, h1, by rw [hA p h1]; exact h2⟩
theorem mx_bd {l : Rows} {y B : Int} (hy : 0 ≤ y ∧ y ≤ B) : ∀ k, (∀ i, i < k → 0 ≤ fy l i ∧ fy l i ≤ B) → 0 ≤ mx l y k ∧ mx l y k ≤ B
  | 0, _ => hy
  | k + 1, h => by
    have := mx_bd hy k (fun i hi => h i (by omega))
    have := h k (by omega)
    unfold mx; omega
abbrev HP (l : Rows) (W s w h : Int) : List (Nat × Ob) := [(6, .cells [.int .i64 s, .int .i64 0, .int .i64 0, .int .i64 w, .int .i64 h]), (6, .cells [.int .i64 0, .int .i64 0, .int .i64 0, .int .i64 0, .int .i64 0]), (5, .cells [.int .i64 h]), (4, .cells [.int .i64 w]), (3, .cells [.int .i64 s]), (2, .cells [.int .i64 W]), (1, .cells [.slc 0 5 0 l.length]), (0, .arr [.int .i64, .int .i64, .int .i64, .int .i64, .int .i64] .rd (.recs l))]
abbrev HQ (l : Rows) (W s w h : Int) (C : List Int) (e : Nat) : List (Nat × Ob) := [(8, .cells [.slc 7 1 0 e]), (7, .arr [.int .i64] .rd (.ints C)), (6, .cells [.int .i64 s, .int .i64 0, .int .i64 0, .int .i64 w, .int .i64 h]), (5, .cells [.int .i64 h]), (4, .cells [.int .i64 w]), (3, .cells [.int .i64 s]), (2, .cells [.int .i64 W]), (1, .cells [.slc 0 5 0 l.length]), (0, .arr [.int .i64, .int .i64, .int .i64, .int .i64, .int .i64] .rd (.recs l))]
abbrev EIx (l : Rows) (f : Int) := { k : Nat // k ≤ l.length ∧ en l f k = [f] } ⊕ { k : Nat // k ≤ l.length ∧ 2 ≤ (en l f k).length }
def eF (l : Rows) (f : Int) : EIx l f → List (Nat × V)
  | .inl k => [(26, .int .i64 (k.1 : Nat)), (7, .grw 7 1), (1, .int .i64 f)]
  | .inr k => [(26, .int .i64 (k.1 : Nat)), (7, .grw 7 (en l f k.1).length), (1, .int .i64 f)]
def eL (l : Rows) (f : Int) : EIx l f → List (Nat × Ob)
  | .inl _ => [(7, .arr [.int .i64] .own (.ints [f]))]
  | .inr k => [(7, .arr [.int .i64] .grow (.ints (en l f k.1)))]
def eM (l : Rows) (f : Int) : EIx l f → Nat
  | .inl k => l.length - k.1
  | .inr k => l.length - k.1
set_option maxHeartbeats 4000000 in
theorem heights_sem (l : Rows) (y W s w h : Int) (hn : l.length ≤ 200) (hF : ∀ i, i < l.length → Fl l i) (hy : 0 ≤ y ∧ y ≤ 1000000000) (K : V → H → Prop) (hK : ∀ C e, HE l (mx l y l.length) C e → K (.fn 38 [] [.ptr 8 0]) ⟨9, 1, HQ l W s w h C e⟩) : SemF Try.prog 29 [.slc 0 5 0 l.length, .int .i64 y] ⟨7, 1, HP l W s w h⟩ K := by
  refine SemF.ret ?_
  refine enter tt_ok Try.func29 (nt := 46) (cd := body Try.f29) rfl rfl rfl rfl ?_
  intro _
  refine loop2 tt_ok [13, 1] [] 7 (fun k : { k : Nat // k ≤ l.length } => [(13, .int .i64 (k : Nat)), (1, .int .i64 (mx l y k))]) (fun _ => []) (fun k => l.length - k) ⟨0, by omega⟩ ?_
  intro _
  refine ⟨⟨th [] 7, rfl, rfl, rfl, rfl, rfl, rfl, ?_, ?_⟩, ?_⟩
  · (repeat' first | exact trivial | exact rfl | refine And.intro ?_ ?_)
  · (repeat' first | exact trivial | exact rfl | refine And.intro ?_ ?_)
  intro ⟨k, hk⟩
  have z : 0 + k = k := Nat.zero_add k
  intro _; refine ⟨fun g => ?_, fun g => ?_⟩
  · have hkl := of_decide_eq_true (show decide ((k : Int) < (l.length : Int)) = true from g)
    intro _; refine ⟨show 0 ≤ (k : Int) ∧ (k : Int) < (l.length : Int) by omega, ?_⟩
    intro _; refine ⟨show 0 + (k : Int).toNat < l.length by omega, ?_⟩
    have ek := (wrap_nat k (by omega)).symm
    refine ⟨⟨k + 1, by omega⟩, by simp; omega, th [] 7, rfl, rfl, rfl, rfl, rfl, rfl, ?_, ?_⟩
    · (repeat' first | exact trivial | exact rfl | refine And.intro ?_ ?_)
      · exact ek
      · show max (mx l y k) (fy l k) = max (mx l y k) (fy l (0 + k))
        rw [z]
    · (repeat' first | exact trivial | exact rfl | refine And.intro ?_ ?_)
  have hkl := of_decide_eq_false (show decide ((k : Int) < (l.length : Int)) = false from g)
  have hkl : k = l.length := by omega
  subst hkl
  obtain ⟨f, hf⟩ : ∃ f, f = mx l y l.length := ⟨_, rfl⟩
  have hfb : 0 ≤ f ∧ f ≤ 1000000000 := by rw [hf]; exact mx_bd hy _ (fun i hi => (hF i hi).2.2.2.2)
  rw [← hf] at hK
  intro _
  refine loop2 tt_ok [26, 7, 1, 23] [7] 8 (eF l f) (eL l f) (eM l f) (.inl ⟨0, by omega, rfl⟩) ?_
  intro _
  refine ⟨⟨th [] 8, rfl, rfl, rfl, rfl, rfl, rfl, ?_, ?_⟩, ?_⟩
  · (repeat' first | exact trivial | exact rfl | refine And.intro ?_ ?_)
    exact hf
  · (repeat' first | exact trivial | exact rfl | refine And.intro ?_ ?_)
    show [f] = [mx l y l.length]
    rw [hf]
  rintro (⟨k, hk, he⟩ | ⟨k, hk, he⟩)
  · have z : 0 + k = k := Nat.zero_add k
    intro _; refine ⟨fun g => ?_, fun g => ?_⟩
    · have hkl := of_decide_eq_true (show decide ((k : Int) < (l.length : Int)) = true from g)
      obtain ⟨f0, f1, f2, f3, f4⟩ := hF k (by omega)
      have eB : IntKind.i64.wrap (fy l (0 + k) + fh l (0 + k)) = fy l k + fh l k := by rw [z]; exact wrapS _ ⟨by omega, by omega⟩
      have ek := (wrap_nat k (by omega)).symm
      intro _; refine ⟨show 0 ≤ (k : Int) ∧ (k : Int) < (l.length : Int) by omega, ?_⟩
      intro _; refine ⟨show 0 + (k : Int).toNat < l.length by omega, ?_⟩
      intro _
      refine call_pure [] (bottom_ok (sd l (0 + k)) (fx l (0 + k)) (fy l (0 + k)) (fw l (0 + k)) (fh l (0 + k))) rfl rfl rfl ?_ ?_ ?_
      · (repeat' first | exact trivial | exact rfl | refine And.intro ?_ ?_)
      · (repeat' first | exact trivial | exact rfl | refine And.intro ?_ ?_)
      intro v hv _
      subst hv
      intro _; refine ⟨fun g => ?_, fun g => ?_⟩
      · have g := of_decide_eq_true (show decide (IntKind.i64.wrap (fy l (0 + k) + fh l (0 + k)) > f) = true from g)
        rw [eB] at g
        have e1 : en l f (k + 1) = [f, fy l k + fh l k] := by
          show (if fy l k + fh l k > f then en l f k ++ [fy l k + fh l k] else en l f k) = _
          rw [if_pos g, he]; rfl
        intro _; refine ⟨rfl, ?_⟩
        intro _; refine ⟨fun g3 => by simp at g3, fun _ => ?_⟩
        refine ⟨⟨rfl, by omega, by omega⟩, ?_⟩
        refine ⟨.inr ⟨k + 1, by omega, by rw [e1]; exact Nat.le_refl _⟩, by show l.length - (k + 1) < l.length - k; omega, th [(7, some 10)] 8, rfl, rfl, rfl, rfl, rfl, rfl, ?_, ?_⟩
        · (repeat' first | exact trivial | exact rfl | refine And.intro ?_ ?_)
          · exact ek
          · show (en l f (k + 1)).length = 2
            rw [e1]; rfl
        · (repeat' first | exact trivial | exact rfl | refine And.intro ?_ ?_)
          show en l f (k + 1) = [f] ++ [IntKind.i64.wrap (fy l (0 + k) + fh l (0 + k))]
          rw [e1, eB]; rfl
      · have g := of_decide_eq_false (show decide (IntKind.i64.wrap (fy l (0 + k) + fh l (0 + k)) > f) = false from g)
        rw [eB] at g
        have e1 : en l f (k + 1) = [f] := by
          show (if fy l k + fh l k > f then en l f k ++ [fy l k + fh l k] else en l f k) = _
          rw [if_neg g, he]
        refine ⟨.inl ⟨k + 1, by omega, e1⟩, by show l.length - (k + 1) < l.length - k; omega, th [] 8, rfl, rfl, rfl, rfl, rfl, rfl, ?_, ?_⟩
        · (repeat' first | exact trivial | exact rfl | refine And.intro ?_ ?_)
          exact ek
        · (repeat' first | exact trivial | exact rfl | refine And.intro ?_ ?_)
    have hkl := of_decide_eq_false (show decide ((k : Int) < (l.length : Int)) = false from g)
    have hkl : k = l.length := by omega
    subst hkl
    intro _
    refine call_mut [(0, some 7)] (sort1_ok f) rfl rfl rfl rfl ?_ ?_ ?_
    · (repeat' first | exact trivial | exact rfl | refine And.intro ?_ ?_)
    · (repeat' first | exact trivial | exact rfl | refine And.intro ?_ ?_)
    intro v h' ⟨hv, hd⟩
    subst hv
    refine ⟨_, mut1o hd, rfl, ?_⟩
    intro _
    refine enter tt_ok Try.func35 (nt := 61) (cd := body Try.f35) rfl rfl rfl rfl ?_
    intro _; refine ⟨fun _ => ?_, fun g => absurd g (by decide)⟩
    intro _
    intro _
    refine enter tt_ok Try.func34 (nt := 4) (cd := body Try.f34) rfl rfl rfl rfl ?_
    intro _
    intro _
    refine ⟨[(0, some 0), (1, some 1), (2, some 2), (3, some 3), (4, some 4), (5, some 5), (6, some 6), (7, some 7), (8, some 8)], .fn 38 [] [.ptr 8 0], ⟨9, 1, HQ l W s w h [f] 1⟩, rfl, rfl, rfl, rfl, ?_, ?_, hK _ _ (HE.one he)⟩
    · (repeat' first | exact trivial | exact rfl | refine And.intro ?_ ?_)
    · (repeat' first | exact trivial | exact rfl | refine And.intro ?_ ?_)
  · have z : 0 + k = k := Nat.zero_add k
    have hel := en_len (l := l) (f := f) k
    intro _; refine ⟨fun g => ?_, fun g => ?_⟩
    · have hkl := of_decide_eq_true (show decide ((k : Int) < (l.length : Int)) = true from g)
      obtain ⟨f0, f1, f2, f3, f4⟩ := hF k (by omega)
      have eB : IntKind.i64.wrap (fy l (0 + k) + fh l (0 + k)) = fy l k + fh l k := by rw [z]; exact wrapS _ ⟨by omega, by omega⟩
      have ek := (wrap_nat k (by omega)).symm
      intro _; refine ⟨show 0 ≤ (k : Int) ∧ (k : Int) < (l.length : Int) by omega, ?_⟩
      intro _; refine ⟨show 0 + (k : Int).toNat < l.length by omega, ?_⟩
      intro _
      refine call_pure [] (bottom_ok (sd l (0 + k)) (fx l (0 + k)) (fy l (0 + k)) (fw l (0 + k)) (fh l (0 + k))) rfl rfl rfl ?_ ?_ ?_
      · (repeat' first | exact trivial | exact rfl | refine And.intro ?_ ?_)
      · (repeat' first | exact trivial | exact rfl | refine And.intro ?_ ?_)
      intro v hv _
      subst hv
      intro _; refine ⟨fun g => ?_, fun g => ?_⟩
      · have g := of_decide_eq_true (show decide (IntKind.i64.wrap (fy l (0 + k) + fh l (0 + k)) > f) = true from g)
        rw [eB] at g
        have e1 : en l f (k + 1) = en l f k ++ [fy l k + fh l k] := if_pos g
        intro _; refine ⟨rfl, ?_⟩
        intro _; refine ⟨fun g3 => by simp at g3, fun _ => ?_⟩
        refine ⟨⟨rfl, by show (en l f k).length + 1 ≤ _; omega, by show ((en l f k).length + 1) * 8 ≤ _; omega⟩, ?_⟩
        refine ⟨.inr ⟨k + 1, by omega, by rw [e1, List.length_append]; omega⟩, by show l.length - (k + 1) < l.length - k; omega, th [(7, some 10)] 8, rfl, rfl, rfl, rfl, rfl, rfl, ?_, ?_⟩
        · (repeat' first | exact trivial | exact rfl | refine And.intro ?_ ?_)
          · exact ek
          · show (en l f (k + 1)).length = (en l f k).length + 1
            rw [e1, List.length_append]; rfl
        · (repeat' first | exact trivial | exact rfl | refine And.intro ?_ ?_)
          show en l f (k + 1) = en l f k ++ [IntKind.i64.wrap (fy l (0 + k) + fh l (0 + k))]
          rw [e1, eB]
      · have g := of_decide_eq_false (show decide (IntKind.i64.wrap (fy l (0 + k) + fh l (0 + k)) > f) = false from g)
        rw [eB] at g
        have e1 : en l f (k + 1) = en l f k := if_neg g
        refine ⟨.inr ⟨k + 1, by omega, by rw [e1]; exact he⟩, by show l.length - (k + 1) < l.length - k; omega, th [] 8, rfl, rfl, rfl, rfl, rfl, rfl, ?_, ?_⟩
        · (repeat' first | exact trivial | exact rfl | refine And.intro ?_ ?_)
          · exact ek
          · show (en l f (k + 1)).length = (en l f k).length
            rw [e1]
        · (repeat' first | exact trivial | exact rfl | refine And.intro ?_ ?_)
          show en l f (k + 1) = en l f k
          exact e1
    have hkl := of_decide_eq_false (show decide ((k : Int) < (l.length : Int)) = false from g)
    have hkl : k = l.length := by omega
    subst hkl
    intro _
    refine call_mut [(0, some 7)] (sort_ok (en l f l.length) (by omega)) rfl rfl rfl rfl ?_ ?_ ?_
    · (repeat' first | exact trivial | exact rfl | refine And.intro ?_ ?_)
    · (repeat' first | exact trivial | exact rfl | refine And.intro ?_ ?_)
    intro v h' ⟨s', ⟨hp, hs⟩, hv, hd⟩
    subst hv
    refine ⟨_, mut1 hd, rfl, ?_⟩
    have hsl : (en l f l.length).length = s'.length := hp.length_eq.symm
    intro _
    refine enter tt_ok Try.func35 (nt := 61) (cd := body Try.f35) rfl rfl rfl rfl ?_
    intro _; refine ⟨fun g => by have g := of_decide_eq_true (show decide (((en l f l.length).length : Int) < 2) = true from g); omega, fun _ => ?_⟩
    intro _
    have fin : ∀ C e, HE l f C e → K (.fn 38 [] [.ptr 8 0]) ⟨9, 1, HQ l W s w h C e⟩ := hK
    refine loop2 tt_ok [3] [] 8 (fun i : { i : Nat // 1 ≤ i ∧ i ≤ s'.length ∧ ∀ p q, p < q → q < i → at' s' p < at' s' q } => [(3, .int .i64 (i.1 : Nat))]) (fun _ => []) (fun i => s'.length - i.1) ⟨1, by omega, by omega, fun p q h1 h2 => by omega⟩ ?_
    intro _
    refine ⟨⟨th [] 8, rfl, rfl, rfl, rfl, rfl, rfl, ?_, ?_⟩, ?_⟩
    · (repeat' first | exact trivial | exact rfl | refine And.intro ?_ ?_)
    · (repeat' first | exact trivial | exact rfl | refine And.intro ?_ ?_)
    intro ⟨i, hi1, hi2, hi3⟩
    intro _; refine ⟨fun g => ?_, fun g => ?_⟩
    rotate_left
    · have hkl := of_decide_eq_false (show decide ((i : Int) < ((en l f l.length).length : Int)) = false from g)
      obtain rfl : i = s'.length := by omega
      intro _
      intro _
      refine enter tt_ok Try.func34 (nt := 4) (cd := body Try.f34) rfl rfl rfl rfl ?_
      intro _
      intro _
      refine ⟨[(0, some 0), (1, some 1), (2, some 2), (3, some 3), (4, some 4), (5, some 5), (6, some 6), (7, some 7), (8, some 8)], .fn 38 [] [.ptr 8 0], ⟨9, 1, HQ l W s w h s' s'.length⟩, rfl, rfl, rfl, rfl, ?_, ?_, fin _ _ (HE.of_inc hp hi3)⟩
      · (repeat' first | exact trivial | exact rfl | refine And.intro ?_ ?_)
      · (repeat' first | exact trivial | exact rfl | refine And.intro ?_ ?_)
        exact hsl.symm
    have hil := of_decide_eq_true (show decide ((i : Int) < ((en l f l.length).length : Int)) = true from g)
    have e0 : IntKind.i64.wrap ((i : Int) - 1) = ((i - 1 : Nat) : Int) := by rw [wrapS _ ⟨by omega, by omega⟩]; omega
    intro _; refine ⟨show 0 ≤ (i : Int) ∧ (i : Int) < ((en l f l.length).length : Int) by omega, ?_⟩
    intro _; refine ⟨show (i : Int).toNat < s'.length by omega, ?_⟩
    intro _; refine ⟨show 0 ≤ IntKind.i64.wrap ((i : Int) - 1) ∧ IntKind.i64.wrap ((i : Int) - 1) < ((en l f l.length).length : Int) by rw [e0]; omega, ?_⟩
    intro _; refine ⟨show (IntKind.i64.wrap ((i : Int) - 1)).toNat < s'.length by rw [e0]; omega, ?_⟩
    intro _; refine ⟨by kernel_rfl, ?_⟩
    intro _; refine ⟨fun g => ?_, fun g => ?_⟩
    rotate_left
    · have g : (s'.getD (i : Int).toNat 0 == s'.getD (IntKind.i64.wrap ((i : Int) - 1)).toNat 0) = false := g
      rw [e0] at g
      have hne : at' s' i ≠ at' s' (i - 1) := by simpa [at'] using g
      refine ⟨⟨i + 1, by omega, by omega, fun p q h1 h2 => ?_⟩, by show s'.length - (i + 1) < s'.length - i; omega, th [] 8, rfl, rfl, rfl, rfl, rfl, rfl, ?_, ?_⟩
      · by_cases c : q = i
        · subst c
          have hlt : at' s' (q - 1) < at' s' q := by
            have := hs (q - 1) q (by omega) (by omega)
            omega
          by_cases c2 : p = q - 1
          · subst c2; exact hlt
          · have := hi3 p (q - 1) (by omega) (by omega)
            omega
        · exact hi3 p q h1 (by omega)
      · (repeat' first | exact trivial | exact rfl | refine And.intro ?_ ?_)
        exact (wrap_nat i (by omega)).symm
      · (repeat' first | exact trivial | exact rfl | refine And.intro ?_ ?_)
    · have g : (s'.getD (i : Int).toNat 0 == s'.getD (IntKind.i64.wrap ((i : Int) - 1)).toNat 0) = true := g
      rw [e0] at g
      have heq : at' s' i = at' s' (i - 1) := by simpa [at'] using g
      intro _; refine ⟨show 0 ≤ (i : Int) ∧ (i : Int) ≤ ((en l f l.length).length : Int) ∧ ((en l f l.length).length : Int) ≤ ((en l f l.length).length : Int) ∧ ((i : Int) < ((en l f l.length).length : Int) ∨ (i : Int) = 0) by omega, ?_⟩
      intro _
      have n4 : (((en l f l.length).length : Int) - (i : Int)).toNat = s'.length - i := by omega
      refine loop2 tt_ok [3, 5, 4, 28] [7] 8 (fun x : { x : Nat × Nat × List Int // CP s' x.1 (i + x.2.1) x.2.2 ∧ 1 ≤ x.2.1 } => [(3, .int .i64 (x.1.1 : Nat)), (5, .int .i64 (x.1.2.1 : Nat)), (4, .slc 7 1 i (s'.length - i))]) (fun x => [(7, .arr [.int .i64] .grow (.ints x.1.2.2))]) (fun x => s'.length - i - x.1.2.1) ⟨(i, 1, s'), CP.start hi3 hi1 (by omega) heq, Nat.le_refl _⟩ ?_
      intro _
      refine ⟨⟨th [] 8, rfl, rfl, rfl, rfl, rfl, rfl, ?_, ?_⟩, ?_⟩
      · (repeat' first | exact trivial | exact rfl | refine And.intro ?_ ?_)
        · show i = 0 + (i : Int).toNat
          omega
        · exact n4.symm
      · (repeat' first | exact trivial | exact rfl | refine And.intro ?_ ?_)
      intro ⟨⟨w', k, d⟩, hC, hk1⟩
      have hC : CP s' w' (i + k) d := hC
      have hk1 : 1 ≤ k := hk1
      have c1 := hC.lo
      have c2 := hC.jm
      have c3 := hC.len
      have c4 := hC.pos
      intro _; refine ⟨fun g => ?_, fun g => ?_⟩
      rotate_left
      · have g := of_decide_eq_false (show decide ((k : Int) < ((s'.length - i : Nat) : Int)) = false from g)
        have ek : i + k = s'.length := by omega
        rw [ek] at hC
        have b1 : (0 ≤ (w' : Int) ∧ (w' : Int) ≤ ((en l f l.length).length : Int) ∧ ((en l f l.length).length : Int) ≤ ((en l f l.length).length : Int) ∧ ((w' : Int) < ((en l f l.length).length : Int) ∨ (w' : Int) = 0)) := by omega
        intro _; refine ⟨b1, ?_⟩
        intro _; refine ⟨fun g => ?_, fun _ => ?_⟩
        · exfalso
          have g : Nat.beq (((en l f l.length).length : Int) - (w' : Int)).toNat 0 = true := g
          have := Nat.eq_of_beq_eq_true g
          omega
        refine ⟨⟨rfl, show 0 + (w' : Int).toNat + (((en l f l.length).length : Int) - (w' : Int)).toNat ≤ d.length by omega⟩, ?_⟩
        intro _; refine ⟨show (0 : Int) ≤ 0 ∧ (0 : Int) ≤ (w' : Int) ∧ (w' : Int) ≤ ((en l f l.length).length : Int) ∧ ((0 : Int) < ((en l f l.length).length : Int) ∨ (0 : Int) = 0) by omega, ?_⟩
        intro _
        intro _
        refine enter tt_ok Try.func34 (nt := 4) (cd := body Try.f34) rfl rfl rfl rfl ?_
        intro _
        intro _
        have hz := zcut_len d w' (s'.length - w') (by omega)
        refine ⟨[(0, some 0), (1, some 1), (2, some 2), (3, some 3), (4, some 4), (5, some 5), (6, some 6), (7, some 7), (8, some 8)], .fn 38 [] [.ptr 8 0], ⟨9, 1, HQ l W s w h (zcut d w' (s'.length - w')) w'⟩, rfl, rfl, rfl, rfl, ?_, ?_, fin _ _ (HE.of_cp hp hC (by rw [hz]; exact c3) (fun p hp => zcut_at d w' _ (by omega) p hp))⟩
        · (repeat' first | exact trivial | exact rfl | refine And.intro ?_ ?_)
        · (repeat' first | exact trivial | exact rfl | refine And.intro ?_ ?_)
          show zcut d w' (s'.length - w') = zcut d (0 + (w' : Int).toNat) (((en l f l.length).length : Int) - (w' : Int)).toNat
          rw [show 0 + (w' : Int).toNat = w' by omega, show (((en l f l.length).length : Int) - (w' : Int)).toNat = s'.length - w' by omega]
      · have g := of_decide_eq_true (show decide ((k : Int) < ((s'.length - i : Nat) : Int)) = true from g)
        have e1 : IntKind.i64.wrap ((k : Int) - 1) = ((k - 1 : Nat) : Int) := by rw [wrapS _ ⟨by omega, by omega⟩]; omega
        intro _; refine ⟨show 0 ≤ (k : Int) ∧ (k : Int) < ((s'.length - i : Nat) : Int) by omega, ?_⟩
        intro _; refine ⟨show i + (k : Int).toNat < d.length by omega, ?_⟩
        intro _; refine ⟨show 0 ≤ IntKind.i64.wrap ((k : Int) - 1) ∧ IntKind.i64.wrap ((k : Int) - 1) < ((s'.length - i : Nat) : Int) by rw [e1]; omega, ?_⟩
        intro _; refine ⟨show i + (IntKind.i64.wrap ((k : Int) - 1)).toNat < d.length by rw [e1]; omega, ?_⟩
        intro _; refine ⟨by kernel_rfl, ?_⟩
        have dj : at' d (i + k) = at' s' (i + k) := hC.rest _ (by omega)
        have dj1 : at' d (i + k - 1) = at' s' (i + k - 1) := hC.rest _ (by omega)
        have es : i + (IntKind.i64.wrap ((k : Int) - 1)).toNat = i + k - 1 := by rw [e1]; omega
        have es2 : i + (k : Int).toNat = i + k := by omega
        intro _; refine ⟨fun g => ?_, fun g => ?_⟩
        · have g : (d.getD (i + (k : Int).toNat) 0 != d.getD (i + (IntKind.i64.wrap ((k : Int) - 1)).toNat) 0) = true := g
          rw [es, es2] at g
          have hne : at' s' (i + k) ≠ at' s' (i + k - 1) := by rw [← dj, ← dj1]; simpa [at'] using g
          intro _; refine ⟨show 0 ≤ (k : Int) ∧ (k : Int) < ((s'.length - i : Nat) : Int) by omega, ?_⟩
          intro _; refine ⟨show i + (k : Int).toNat < d.length by omega, ?_⟩
          intro _; refine ⟨show 0 ≤ (w' : Int) ∧ (w' : Int) < ((en l f l.length).length : Int) by omega, ?_⟩
          intro _; refine ⟨show (w' : Int).toNat < d.length by omega, ?_⟩
          refine ⟨⟨(w' + 1, k + 1, d.set w' (at' d (i + k))), hC.put hs (by omega) hne, by show 1 ≤ k + 1; omega⟩, by show s'.length - i - (k + 1) < s'.length - i - k; omega, th [] 8, rfl, rfl, rfl, rfl, rfl, rfl, ?_, ?_⟩
          · (repeat' first | exact trivial | exact rfl | refine And.intro ?_ ?_)
            · exact (wrap_nat w' (by omega)).symm
            · exact (wrap_nat k (by omega)).symm
          · (repeat' first | exact trivial | exact rfl | refine And.intro ?_ ?_)
        · have g : (d.getD (i + (k : Int).toNat) 0 != d.getD (i + (IntKind.i64.wrap ((k : Int) - 1)).toNat) 0) = false := g
          rw [es, es2] at g
          have heq2 : at' s' (i + k) = at' s' (i + k - 1) := by rw [← dj, ← dj1]; simpa [at'] using g
          refine ⟨⟨(w', k + 1, d), hC.keep (by omega) heq2, by show 1 ≤ k + 1; omega⟩, by show s'.length - i - (k + 1) < s'.length - i - k; omega, th [] 8, rfl, rfl, rfl, rfl, rfl, rfl, ?_, ?_⟩
          · (repeat' first | exact trivial | exact rfl | refine And.intro ?_ ?_)
            exact (wrap_nat k (by omega)).symm
          · (repeat' first | exact trivial | exact rfl | refine And.intro ?_ ?_)
def FreeAt (l : Rows) (W a w h : Int) : Prop := Fr l a h l.length = true ∨ w ≤ max (Hi l W a h l.length) (Lo l a h l.length) - Lo l a h l.length
instance decFreeAt (l : Rows) (W a w h : Int) : Decidable (FreeAt l W a w h) := inferInstanceAs (Decidable (_ ∨ _))
def PA (l : Rows) (W y w h a : Int) : Prop := (Cand l (mx l y l.length) a ∧ FreeAt l W a w h) ∧ ∀ b, Cand l (mx l y l.length) b → b < a → ¬ FreeAt l W b w h
theorem PA.uniq {l : Rows} {W y w h a b : Int} (h1 : PA l W y w h a) (h2 : PA l W y w h b) : a = b := by
  rcases Int.lt_trichotomy a b with c | c | c
  · exact absurd h1.1.2 (h2.2 a h1.1.1 c)
  · exact c
  · exact absurd h2.1.2 (h1.2 b h2.1.1 c)
noncomputable def pa (l : Rows) (W y w h : Int) : Int := Classical.epsilon (PA l W y w h)
theorem pa_eq {l : Rows} {W y w h a : Int} (h1 : PA l W y w h a) : pa l W y w h = a := PA.uniq (Classical.epsilon_spec ⟨a, h1⟩) h1
theorem Fr_no {l : Rows} {y h : Int} : ∀ k, Fr l y h k = false → ∃ i, i < k ∧ hs l y h i = true
  | 0, e => by cases e
  | k + 1, e => by
    have e : (!hs l y h k && Fr l y h k) = false := e
    cases c : hs l y h k with
    | true => exact ⟨k, by omega, c⟩
    | false =>
      rw [c] at e
      obtain ⟨i, h1, h2⟩ := Fr_no k (by simpa using e)
      exact ⟨i, by omega, h2⟩
/-- where it isn't free, something ends further down -/
theorem free_no {l : Rows} {W a w h : Int} (e : ¬ FreeAt l W a w h) : ∃ i, i < l.length ∧ fy l i + fh l i > a := by
  cases c : Fr l a h l.length with
  | true => exact absurd (.inl c) e
  | false =>
    obtain ⟨i, h1, h2⟩ := Fr_no _ c
    have h2 := of_decide_eq_true h2
    exact ⟨i, h1, h2.2.2⟩
def px (l : Rows) (W s a w h : Int) : Int := if s = 2 then max (max (Hi l W a h l.length) (Lo l a h l.length) - w) 0 else Lo l a h l.length
def prow (l : Rows) (W s a w h : Int) : List D := [D.n s, D.n (px l W s a w h), D.n a, D.n w, D.n h]
def Pv (l : Rows) (W s y w h : Int) : Prop := Vd l W ∧ (s = 1 ∨ s = 2) ∧ (0 ≤ y ∧ y ≤ 1000000000) ∧ (0 ≤ w ∧ w ≤ 1000000) ∧ (0 ≤ h ∧ h ≤ 1000000)
instance decPv (l : Rows) (W s y w h : Int) : Decidable (Pv l W s y w h) := inferInstanceAs (Decidable (_ ∧ _))
noncomputable def pl (l : Rows) (W s y w h : Int) : Rows × Int := if Pv l W s y w h then (if l.length = 200 then ([], 2) else if pa l W y w h > 1000000000 then ([], 3) else (l ++ [prow l W s (pa l W y w h) w h], 0)) else ([], 1)
theorem pl_bad {l : Rows} {W s y w h : Int} (e : ¬ Pv l W s y w h) : pl l W s y w h = ([], 1) := if_neg e
theorem pl_full {l : Rows} {W s y w h : Int} (e : Pv l W s y w h) (g : l.length = 200) : pl l W s y w h = ([], 2) := by unfold pl; rw [if_pos e, if_pos g]
theorem pl_far {l : Rows} {W s y w h a : Int} (e : Pv l W s y w h) (g : ¬ l.length = 200) (p : PA l W y w h a) (f : a > 1000000000) : pl l W s y w h = ([], 3) := by unfold pl; rw [if_pos e, if_neg g, pa_eq p, if_pos f]
theorem pl_ok {l : Rows} {W s y w h a : Int} (e : Pv l W s y w h) (g : ¬ l.length = 200) (p : PA l W y w h a) (f : ¬ a > 1000000000) : pl l W s y w h = (l ++ [prow l W s a w h], 0) := by unfold pl; rw [if_pos e, if_neg g, pa_eq p, if_neg f]
theorem cand_bd {l : Rows} {y v : Int} (hF : ∀ i, i < l.length → Fl l i) (hy : 0 ≤ y ∧ y ≤ 1000000000) (h : Cand l (mx l y l.length) v) : 0 ≤ v ∧ v ≤ 1001000000 := by
  have hm := mx_bd hy l.length (fun i hi => (hF i hi).2.2.2.2)
  rcases h with rfl | ⟨i, h1, rfl, h3⟩
  · omega
  · obtain ⟨_, _, _, f3, f4⟩ := hF i h1
    omega
theorem HE.idx {l : Rows} {y : Int} {C : List Int} {e : Nat} (hF : ∀ i, i < l.length → Fl l i) (hy : 0 ≤ y ∧ y ≤ 1000000000) (hE : HE l (mx l y l.length) C e) : ∀ k, k < e → (k : Int) ≤ at' C k
  | 0, h => by have := cand_bd hF hy ((hE.mem _).1 ⟨0, h, rfl⟩); omega
  | k + 1, h => by
    have := HE.idx hF hy hE k (by omega)
    have := hE.inc k (k + 1) (by omega) h
    omega
/-- the last height is free -/
theorem HE.last {l : Rows} {f : Int} {C : List Int} {e : Nat} (hE : HE l f C e) {W w h : Int} (hb : ∀ p, p < e → ¬ FreeAt l W (at' C p) w h) : False := by
  obtain ⟨p, p1, p2⟩ := (hE.mem f).2 (.inl rfl)
  have : ∀ k, k < e → at' C k ≤ at' C (e - 1) := fun k hk => by
    by_cases c : k = e - 1
    · subst c; exact Int.le_refl _
    · have := hE.inc k (e - 1) (by omega) (by omega); omega
  obtain ⟨i, i1, i2⟩ := free_no (hb (e - 1) (by omega))
  have h0 := this p p1
  obtain ⟨q, q1, q2⟩ := (hE.mem (fy l i + fh l i)).2 (.inr ⟨i, i1, rfl, by omega⟩)
  have := this q q1
  omega
theorem HE.pa {l : Rows} {C : List Int} {e : Nat} {W y w h : Int} (hE : HE l (mx l y l.length) C e) {k : Nat} (hk : k < e) (hb : ∀ p, p < k → ¬ FreeAt l W (at' C p) w h) (hf : FreeAt l W (at' C k) w h) : PA l W y w h (at' C k) := by
  refine ⟨⟨(hE.mem _).1 ⟨k, hk, rfl⟩, hf⟩, fun b hc hlt => ?_⟩
  obtain ⟨p, p1, p2⟩ := (hE.mem b).2 hc
  rw [← p2] at hlt ⊢
  refine hb p ?_
  rcases Nat.lt_trichotomy p k with c | c | c
  · exact c
  · subst c; omega
  · have := hE.inc k p c p1; omega

set_option maxHeartbeats 8000000 in
theorem place_ok (l : Rows) (W s y w h : Int) (hl : l.length ≤ 9223372036854775807) : SemF Try.prog 16 [.slc 0 5 0 l.length, .int .i64 W, .int .i64 s, .int .i64 y, .int .i64 w, .int .i64 h] ⟨1, 1, [(0, .arr [.int .i64, .int .i64, .int .i64, .int .i64, .int .i64] .rd (.recs l))]⟩ (fun v h' => v = .tup [.grw 1 (pl l W s y w h).1.length, .int .i64 (pl l W s y w h).2] ∧ h' = ⟨2, 1, [(1, .arr [.int .i64, .int .i64, .int .i64, .int .i64, .int .i64] .grow (.recs (pl l W s y w h).1))]⟩) := by
  refine SemF.ret ?_
  refine enter tt_ok Try.func16 (nt := 98) (cd := body Try.f16) rfl rfl rfl rfl ?_
  intro _
  refine call_pure [(0, some 0)] (valid_ok l W hl) rfl rfl rfl ?_ ?_ ?_
  · (repeat' first | exact trivial | exact rfl | refine And.intro ?_ ?_)
  · (repeat' first | exact trivial | exact rfl | refine And.intro ?_ ?_)
  intro v hv _
  subst hv
  intro _; refine ⟨fun g => ?_, fun g => ?_⟩
  · have q : (!decide (Vd l W)) = true := g
    rw [Bool.not_eq_true'] at q
    have q := of_decide_eq_false q
    have eP := pl_bad (fun g : Pv l W s y w h => q g.1)
    intro _
    refine ⟨[(1, none)], .tup [.grw 1 (pl l W s y w h).1.length, .int .i64 (pl l W s y w h).2], ⟨2, 1, [(1, .arr [.int .i64, .int .i64, .int .i64, .int .i64, .int .i64] .grow (.recs (pl l W s y w h).1))]⟩, rfl, rfl, rfl, rfl, ?_, ?_, ⟨rfl, rfl⟩⟩
    · rw [eP]; (repeat' first | exact trivial | exact rfl | refine And.intro ?_ ?_)
    · rw [eP]; (repeat' first | exact trivial | exact rfl | refine And.intro ?_ ?_)
  have g : (!decide (Vd l W)) = false := g
  rw [Bool.not_eq_false'] at g
  have hV := of_decide_eq_true g
  intro _; refine ⟨fun g => ?_, fun g => ?_⟩
  · have g1 : s ≠ 1 := by
      have g : (s != 1) = true := g
      simpa using g
    intro _; refine ⟨fun g => ?_, fun g => ?_⟩
    · have g : (s != 2) = true := g
      have g2 : s ≠ 2 := by simpa using g
      have eP := pl_bad (fun g : Pv l W s y w h => g.2.1.elim g1 g2)
      intro _
      refine ⟨[(1, none)], .tup [.grw 1 (pl l W s y w h).1.length, .int .i64 (pl l W s y w h).2], ⟨2, 1, [(1, .arr [.int .i64, .int .i64, .int .i64, .int .i64, .int .i64] .grow (.recs (pl l W s y w h).1))]⟩, rfl, rfl, rfl, rfl, ?_, ?_, ⟨rfl, rfl⟩⟩
      · rw [eP]; (repeat' first | exact trivial | exact rfl | refine And.intro ?_ ?_)
      · rw [eP]; (repeat' first | exact trivial | exact rfl | refine And.intro ?_ ?_)
    have g : (s != 2) = false := g
    have hs2 : s = 2 := by simpa using g
    have hsd : s = 1 ∨ s = 2 := .inr hs2
    intro _
    refine high_test _ _ _ ?_
    intro _; refine ⟨fun g => ?_, fun g => ?_⟩
    · have q : (!decide (0 ≤ y ∧ y ≤ 1000000000)) = true := g
      rw [Bool.not_eq_true'] at q
      have q := of_decide_eq_false q
      have eP := pl_bad (fun g : Pv l W s y w h => q g.2.2.1)
      intro _
      refine ⟨[(1, none)], .tup [.grw 1 (pl l W s y w h).1.length, .int .i64 (pl l W s y w h).2], ⟨2, 1, [(1, .arr [.int .i64, .int .i64, .int .i64, .int .i64, .int .i64] .grow (.recs (pl l W s y w h).1))]⟩, rfl, rfl, rfl, rfl, ?_, ?_, ⟨rfl, rfl⟩⟩
      · rw [eP]; (repeat' first | exact trivial | exact rfl | refine And.intro ?_ ?_)
      · rw [eP]; (repeat' first | exact trivial | exact rfl | refine And.intro ?_ ?_)
    have g : (!decide (0 ≤ y ∧ y ≤ 1000000000)) = false := g
    rw [Bool.not_eq_false'] at g
    have hy := of_decide_eq_true g
    intro _
    refine len_test _ _ _ ?_
    intro _; refine ⟨fun g => ?_, fun g => ?_⟩
    · have q : (!decide (0 ≤ w ∧ w ≤ 1000000)) = true := g
      rw [Bool.not_eq_true'] at q
      have q := of_decide_eq_false q
      have eP := pl_bad (fun g : Pv l W s y w h => q g.2.2.2.1)
      intro _
      refine ⟨[(1, none)], .tup [.grw 1 (pl l W s y w h).1.length, .int .i64 (pl l W s y w h).2], ⟨2, 1, [(1, .arr [.int .i64, .int .i64, .int .i64, .int .i64, .int .i64] .grow (.recs (pl l W s y w h).1))]⟩, rfl, rfl, rfl, rfl, ?_, ?_, ⟨rfl, rfl⟩⟩
      · rw [eP]; (repeat' first | exact trivial | exact rfl | refine And.intro ?_ ?_)
      · rw [eP]; (repeat' first | exact trivial | exact rfl | refine And.intro ?_ ?_)
    have g : (!decide (0 ≤ w ∧ w ≤ 1000000)) = false := g
    rw [Bool.not_eq_false'] at g
    have hw := of_decide_eq_true g
    intro _
    refine len_test _ _ _ ?_
    intro _; refine ⟨fun g => ?_, fun g => ?_⟩
    · have q : (!decide (0 ≤ h ∧ h ≤ 1000000)) = true := g
      rw [Bool.not_eq_true'] at q
      have q := of_decide_eq_false q
      have eP := pl_bad (fun g : Pv l W s y w h => q g.2.2.2.2)
      intro _
      refine ⟨[(1, none)], .tup [.grw 1 (pl l W s y w h).1.length, .int .i64 (pl l W s y w h).2], ⟨2, 1, [(1, .arr [.int .i64, .int .i64, .int .i64, .int .i64, .int .i64] .grow (.recs (pl l W s y w h).1))]⟩, rfl, rfl, rfl, rfl, ?_, ?_, ⟨rfl, rfl⟩⟩
      · rw [eP]; (repeat' first | exact trivial | exact rfl | refine And.intro ?_ ?_)
      · rw [eP]; (repeat' first | exact trivial | exact rfl | refine And.intro ?_ ?_)
    have g : (!decide (0 ≤ h ∧ h ≤ 1000000)) = false := g
    rw [Bool.not_eq_false'] at g
    have hh := of_decide_eq_true g
    have hPv : Pv l W s y w h := ⟨hV, hsd, hy, hw, hh⟩
    intro _; refine ⟨fun g => ?_, fun g => ?_⟩
    · have g : ((l.length : Int) == 200) = true := g
      have g : (l.length : Int) = 200 := by simpa using g
      have eP := pl_full hPv (by omega)
      intro _
      refine ⟨[(1, none)], .tup [.grw 1 (pl l W s y w h).1.length, .int .i64 (pl l W s y w h).2], ⟨2, 1, [(1, .arr [.int .i64, .int .i64, .int .i64, .int .i64, .int .i64] .grow (.recs (pl l W s y w h).1))]⟩, rfl, rfl, rfl, rfl, ?_, ?_, ⟨rfl, rfl⟩⟩
      · rw [eP]; (repeat' first | exact trivial | exact rfl | refine And.intro ?_ ?_)
      · rw [eP]; (repeat' first | exact trivial | exact rfl | refine And.intro ?_ ?_)
    have g : ((l.length : Int) == 200) = false := g
    have h200 : ¬ l.length = 200 := fun e => by rw [e] at g; simp at g
    intro _
    refine heights_sem l y W s w h (by have := hV.1.1; omega) hV.2 hy _ ?_
    intro C e hE
    intro _
    refine range_ok ?_
    intro _
    refine enter tt_ok Try.func38 (nt := 16) (cd := body Try.f38) rfl rfl rfl rfl ?_
    intro _
    refine loop2 tt_ok [7] [] 11 (fun k : { k : Nat // k ≤ e ∧ ∀ p, p < k → ¬ FreeAt l W (at' C p) w h } => [(7, .int .i64 (k.1 : Nat))]) (fun _ => []) (fun k => e - k.1) ⟨0, by omega, fun p hp => by omega⟩ ?_
    intro _
    refine ⟨⟨th [] 11, rfl, rfl, rfl, rfl, rfl, rfl, ?_, ?_⟩, ?_⟩
    · (repeat' first | exact trivial | exact rfl | refine And.intro ?_ ?_)
    · (repeat' first | exact trivial | exact rfl | refine And.intro ?_ ?_)
    intro ⟨k, hk, hb⟩
    intro _; refine ⟨fun g => ?_, fun g => ?_⟩
    rotate_left
    · have hkl := of_decide_eq_false (show decide ((k : Int) < (e : Int)) = false from g)
      obtain rfl : k = e := by omega
      exact (hE.last hb).elim
    have hke : k < e := by have := of_decide_eq_true (show decide ((k : Int) < (e : Int)) = true from g); omega
    have hcl := hE.le
    have eat : 0 + (k : Int).toNat = k := by omega
    have h2c : l.length ≤ 200 := hV.1.1
    have eC : C.getD (0 + (k : Int).toNat) 0 = at' C k := by rw [eat]; rfl
    have hki := hE.idx hV.2 hy k hke
    have hcb := cand_bd hV.2 hy ((hE.mem _).1 ⟨k, hke, rfl⟩)
    intro _; refine ⟨show 0 ≤ (k : Int) ∧ (k : Int) < (e : Int) by omega, ?_⟩
    intro _; refine ⟨show 0 + (k : Int).toNat < C.length by omega, ?_⟩
    intro _
    refine yield_ok tt_ok ?_
    intro _
    refine call_pure [(0, some 0)] (room_ok2 l W (at' C k) h hl hV hcb hh) rfl rfl rfl ?_ ?_ ?_
    · (repeat' first | exact trivial | exact rfl | refine And.intro ?_ ?_)
    · (repeat' first | exact trivial | exact rfl | refine And.intro ?_ ?_)
      show at' C k = C.getD (0 + (k : Int).toNat) 0
      rw [eat]; rfl
    intro v hv _
    subst hv
    have hLo := lo_bd (y := at' C k) (h := h) hV l.length (Nat.le_refl _)
    have hHi := hi_bd (y := at' C k) (h := h) hV l.length (Nat.le_refl _)
    have ew : IntKind.i64.wrap (max (Hi l W (at' C k) h l.length) (Lo l (at' C k) h l.length) - Lo l (at' C k) h l.length) = max (Hi l W (at' C k) h l.length) (Lo l (at' C k) h l.length) - Lo l (at' C k) h l.length := wrapS _ ⟨by omega, by omega⟩
    have ew2 : IntKind.i64.wrap (max (Hi l W (at' C k) h l.length) (Lo l (at' C k) h l.length) - w) = max (Hi l W (at' C k) h l.length) (Lo l (at' C k) h l.length) - w := wrapS _ ⟨by omega, by omega⟩
    intro _; refine ⟨fun g => ?_, fun g => ?_⟩
    · have g : (!Fr l (at' C k) h l.length) = true := g
      rw [Bool.not_eq_true'] at g
      have hf0 := g
      intro _; refine ⟨fun g => ?_, fun g => ?_⟩
      · have g := of_decide_eq_true (show decide (w > IntKind.i64.wrap (max (Hi l W (at' C k) h l.length) (Lo l (at' C k) h l.length) - Lo l (at' C k) h l.length)) = true from g)
        rw [ew] at g
        have hfr : ¬ FreeAt l W (at' C k) w h := fun q => q.elim (fun q => by rw [hf0] at q; cases q) (fun q => by omega)
        intro _
        refine ⟨⟨k + 1, by omega, fun p hp => ?_⟩, by show e - (k + 1) < e - k; omega, th [] 11, rfl, rfl, rfl, rfl, rfl, rfl, ?_, ?_⟩
        · by_cases c : p = k
          · subst c; exact hfr
          · exact hb p (by omega)
        · (repeat' first | exact trivial | exact rfl | refine And.intro ?_ ?_)
          exact (wrap_nat k (by omega)).symm
        · (repeat' first | exact trivial | exact rfl | refine And.intro ?_ ?_)
      have g := of_decide_eq_false (show decide (w > IntKind.i64.wrap (max (Hi l W (at' C k) h l.length) (Lo l (at' C k) h l.length) - Lo l (at' C k) h l.length)) = false from g)
      rw [ew] at g
      have hfr : FreeAt l W (at' C k) w h := .inr (by omega)
      intro _; refine ⟨fun g => ?_, fun g => absurd (show (s == 2) = false from g) (by rw [hs2]; decide)⟩
      have hPA := hE.pa hke hb hfr
      intro _
      intro _
      intro _
      refine high_test _ _ _ ?_
      intro _; refine ⟨fun g => ?_, fun g => ?_⟩
      · have g : (!decide (0 ≤ C.getD (0 + (k : Int).toNat) 0 ∧ C.getD (0 + (k : Int).toNat) 0 ≤ 1000000000)) = true := g
        rw [eC, Bool.not_eq_true'] at g
        have g := of_decide_eq_false g
        have eP := pl_far hPv h200 hPA (by omega)
        intro _
        refine ⟨[(1, none)], .tup [.grw 1 (pl l W s y w h).1.length, .int .i64 (pl l W s y w h).2], ⟨2, 1, [(1, .arr [.int .i64, .int .i64, .int .i64, .int .i64, .int .i64] .grow (.recs (pl l W s y w h).1))]⟩, rfl, rfl, rfl, rfl, ?_, ?_, ⟨rfl, rfl⟩⟩
        · rw [eP]; (repeat' first | exact trivial | exact rfl | refine And.intro ?_ ?_)
        · rw [eP]; (repeat' first | exact trivial | exact rfl | refine And.intro ?_ ?_)
      have g : (!decide (0 ≤ C.getD (0 + (k : Int).toNat) 0 ∧ C.getD (0 + (k : Int).toNat) 0 ≤ 1000000000)) = false := g
      rw [eC, Bool.not_eq_false'] at g
      have g := of_decide_eq_true g
      have eP := pl_ok hPv h200 hPA (by omega)
      have hrow : prow l W s (at' C k) w h = [D.n s, D.n (max (IntKind.i64.wrap (max (Hi l W (at' C k) h l.length) (Lo l (at' C k) h l.length) - w)) 0), D.n (C.getD (0 + (k : Int).toNat) 0), D.n w, D.n h] := by
        unfold prow px; rw [if_pos hs2, eC, ew2]
      intro _; refine Or.inl ?_
      intro _
      refine enter tt_ok Try.func30 (nt := 8) (cd := body Try.f30) rfl rfl rfl rfl ?_
      intro _; intro bq hbq
      intro _; refine ⟨fun g => ?_, fun g => ?_⟩
      · have hl0 : l.length = 0 := hbq g
        have hlE : l = [] := List.length_eq_zero_iff.1 hl0
        intro _
        intro _; refine Or.inl ?_
        intro _; refine ⟨rfl, ?_⟩
        intro _; refine ⟨fun g3 => by simp at g3, fun _ => ?_⟩
        refine ⟨⟨by omega, by omega⟩, ?_⟩
        intro _; refine ⟨by kernel_rfl, ?_⟩
        intro _
        refine ⟨[(1, some 13)], .tup [.grw 1 (pl l W s y w h).1.length, .int .i64 (pl l W s y w h).2], ⟨2, 1, [(1, .arr [.int .i64, .int .i64, .int .i64, .int .i64, .int .i64] .grow (.recs (pl l W s y w h).1))]⟩, rfl, rfl, rfl, rfl, ?_, ?_, ⟨rfl, rfl⟩⟩
        · rw [eP]; (repeat' first | exact trivial | exact rfl | refine And.intro ?_ ?_)
          show (l ++ [prow l W s (at' C k) w h]).length = 1
          rw [hlE]; rfl
        · rw [eP]; (repeat' first | exact trivial | exact rfl | refine And.intro ?_ ?_)
          show l ++ [prow l W s (at' C k) w h] = _
          exact (show ∀ r : List D, l ++ [r] = [r] from fun r => by rw [hlE]; rfl) _ |>.trans (congrArg (fun r => [r]) hrow)
      intro _; refine ⟨show 0 + l.length ≤ l.length by omega, ?_⟩
      have etk : (l.drop 0).take l.length = l := by simp
      intro _; refine ⟨fun g3 => ?_, fun g3 => ?_⟩
      · have hl0 : l.length = 0 := Nat.eq_of_beq_eq_true g3
        have hlE : l = [] := List.length_eq_zero_iff.1 hl0
        intro _
        intro _; refine Or.inl ?_
        intro _; refine ⟨rfl, ?_⟩
        intro _; refine ⟨fun g3 => by simp at g3, fun _ => ?_⟩
        refine ⟨⟨rfl, by omega, by omega⟩, ?_⟩
        intro _; refine ⟨by kernel_rfl, ?_⟩
        intro _
        refine ⟨[(1, some 14)], .tup [.grw 1 (pl l W s y w h).1.length, .int .i64 (pl l W s y w h).2], ⟨2, 1, [(1, .arr [.int .i64, .int .i64, .int .i64, .int .i64, .int .i64] .grow (.recs (pl l W s y w h).1))]⟩, rfl, rfl, rfl, rfl, ?_, ?_, ⟨rfl, rfl⟩⟩
        · rw [eP]; (repeat' first | exact trivial | exact rfl | refine And.intro ?_ ?_)
          show (l ++ [prow l W s (at' C k) w h]).length = 0 + 1
          rw [hlE]; rfl
        · rw [eP]; (repeat' first | exact trivial | exact rfl | refine And.intro ?_ ?_)
          show l ++ [prow l W s (at' C k) w h] = _
          exact (show ∀ r : List D, l ++ [r] = [r] from fun r => by rw [hlE]; rfl) _ |>.trans (congrArg (fun r => [r]) hrow)
      refine ⟨⟨rfl, by show 0 + l.length ≤ _; omega, by show (0 + l.length) * 40 ≤ _; omega⟩, ?_⟩
      intro _
      intro _; refine Or.inr ?_
      intro _; refine ⟨rfl, ?_⟩
      intro _; refine ⟨fun g3 => by simp at g3, fun _ => ?_⟩
      refine ⟨⟨by show 0 + l.length = ([] ++ (l.drop 0).take l.length : Rows).length; rw [etk]; simp, by show 0 + l.length + 1 ≤ _; omega, by show (0 + l.length + 1) * 40 ≤ _; omega⟩, ?_⟩
      intro _; refine ⟨by kernel_rfl, ?_⟩
      intro _
      refine ⟨[(1, some 15)], .tup [.grw 1 (pl l W s y w h).1.length, .int .i64 (pl l W s y w h).2], ⟨2, 1, [(1, .arr [.int .i64, .int .i64, .int .i64, .int .i64, .int .i64] .grow (.recs (pl l W s y w h).1))]⟩, rfl, rfl, rfl, rfl, ?_, ?_, ⟨rfl, rfl⟩⟩
      · rw [eP]; (repeat' first | exact trivial | exact rfl | refine And.intro ?_ ?_)
        show (l ++ [prow l W s (at' C k) w h]).length = 0 + l.length + 1
        rw [List.length_append]; simp
      · rw [eP]; (repeat' first | exact trivial | exact rfl | refine And.intro ?_ ?_)
        show l ++ [prow l W s (at' C k) w h] = ([] ++ (l.drop 0).take l.length) ++ _
        rw [hrow, etk]; rfl
    have g : (!Fr l (at' C k) h l.length) = false := g
    rw [Bool.not_eq_false'] at g
    have hfr : FreeAt l W (at' C k) w h := .inl g
    intro _; refine ⟨fun g => ?_, fun g => absurd (show (s == 2) = false from g) (by rw [hs2]; decide)⟩
    have hPA := hE.pa hke hb hfr
    intro _
    intro _
    intro _
    refine high_test _ _ _ ?_
    intro _; refine ⟨fun g => ?_, fun g => ?_⟩
    · have g : (!decide (0 ≤ C.getD (0 + (k : Int).toNat) 0 ∧ C.getD (0 + (k : Int).toNat) 0 ≤ 1000000000)) = true := g
      rw [eC, Bool.not_eq_true'] at g
      have g := of_decide_eq_false g
      have eP := pl_far hPv h200 hPA (by omega)
      intro _
      refine ⟨[(1, none)], .tup [.grw 1 (pl l W s y w h).1.length, .int .i64 (pl l W s y w h).2], ⟨2, 1, [(1, .arr [.int .i64, .int .i64, .int .i64, .int .i64, .int .i64] .grow (.recs (pl l W s y w h).1))]⟩, rfl, rfl, rfl, rfl, ?_, ?_, ⟨rfl, rfl⟩⟩
      · rw [eP]; (repeat' first | exact trivial | exact rfl | refine And.intro ?_ ?_)
      · rw [eP]; (repeat' first | exact trivial | exact rfl | refine And.intro ?_ ?_)
    have g : (!decide (0 ≤ C.getD (0 + (k : Int).toNat) 0 ∧ C.getD (0 + (k : Int).toNat) 0 ≤ 1000000000)) = false := g
    rw [eC, Bool.not_eq_false'] at g
    have g := of_decide_eq_true g
    have eP := pl_ok hPv h200 hPA (by omega)
    have hrow : prow l W s (at' C k) w h = [D.n s, D.n (max (IntKind.i64.wrap (max (Hi l W (at' C k) h l.length) (Lo l (at' C k) h l.length) - w)) 0), D.n (C.getD (0 + (k : Int).toNat) 0), D.n w, D.n h] := by
      unfold prow px; rw [if_pos hs2, eC, ew2]
    intro _; refine Or.inl ?_
    intro _
    refine enter tt_ok Try.func30 (nt := 8) (cd := body Try.f30) rfl rfl rfl rfl ?_
    intro _; intro bq hbq
    intro _; refine ⟨fun g => ?_, fun g => ?_⟩
    · have hl0 : l.length = 0 := hbq g
      have hlE : l = [] := List.length_eq_zero_iff.1 hl0
      intro _
      intro _; refine Or.inl ?_
      intro _; refine ⟨rfl, ?_⟩
      intro _; refine ⟨fun g3 => by simp at g3, fun _ => ?_⟩
      refine ⟨⟨by omega, by omega⟩, ?_⟩
      intro _; refine ⟨by kernel_rfl, ?_⟩
      intro _
      refine ⟨[(1, some 13)], .tup [.grw 1 (pl l W s y w h).1.length, .int .i64 (pl l W s y w h).2], ⟨2, 1, [(1, .arr [.int .i64, .int .i64, .int .i64, .int .i64, .int .i64] .grow (.recs (pl l W s y w h).1))]⟩, rfl, rfl, rfl, rfl, ?_, ?_, ⟨rfl, rfl⟩⟩
      · rw [eP]; (repeat' first | exact trivial | exact rfl | refine And.intro ?_ ?_)
        show (l ++ [prow l W s (at' C k) w h]).length = 1
        rw [hlE]; rfl
      · rw [eP]; (repeat' first | exact trivial | exact rfl | refine And.intro ?_ ?_)
        show l ++ [prow l W s (at' C k) w h] = _
        exact (show ∀ r : List D, l ++ [r] = [r] from fun r => by rw [hlE]; rfl) _ |>.trans (congrArg (fun r => [r]) hrow)
    intro _; refine ⟨show 0 + l.length ≤ l.length by omega, ?_⟩
    have etk : (l.drop 0).take l.length = l := by simp
    intro _; refine ⟨fun g3 => ?_, fun g3 => ?_⟩
    · have hl0 : l.length = 0 := Nat.eq_of_beq_eq_true g3
      have hlE : l = [] := List.length_eq_zero_iff.1 hl0
      intro _
      intro _; refine Or.inl ?_
      intro _; refine ⟨rfl, ?_⟩
      intro _; refine ⟨fun g3 => by simp at g3, fun _ => ?_⟩
      refine ⟨⟨rfl, by omega, by omega⟩, ?_⟩
      intro _; refine ⟨by kernel_rfl, ?_⟩
      intro _
      refine ⟨[(1, some 14)], .tup [.grw 1 (pl l W s y w h).1.length, .int .i64 (pl l W s y w h).2], ⟨2, 1, [(1, .arr [.int .i64, .int .i64, .int .i64, .int .i64, .int .i64] .grow (.recs (pl l W s y w h).1))]⟩, rfl, rfl, rfl, rfl, ?_, ?_, ⟨rfl, rfl⟩⟩
      · rw [eP]; (repeat' first | exact trivial | exact rfl | refine And.intro ?_ ?_)
        show (l ++ [prow l W s (at' C k) w h]).length = 0 + 1
        rw [hlE]; rfl
      · rw [eP]; (repeat' first | exact trivial | exact rfl | refine And.intro ?_ ?_)
        show l ++ [prow l W s (at' C k) w h] = _
        exact (show ∀ r : List D, l ++ [r] = [r] from fun r => by rw [hlE]; rfl) _ |>.trans (congrArg (fun r => [r]) hrow)
    refine ⟨⟨rfl, by show 0 + l.length ≤ _; omega, by show (0 + l.length) * 40 ≤ _; omega⟩, ?_⟩
    intro _
    intro _; refine Or.inr ?_
    intro _; refine ⟨rfl, ?_⟩
    intro _; refine ⟨fun g3 => by simp at g3, fun _ => ?_⟩
    refine ⟨⟨by show 0 + l.length = ([] ++ (l.drop 0).take l.length : Rows).length; rw [etk]; simp, by show 0 + l.length + 1 ≤ _; omega, by show (0 + l.length + 1) * 40 ≤ _; omega⟩, ?_⟩
    intro _; refine ⟨by kernel_rfl, ?_⟩
    intro _
    refine ⟨[(1, some 15)], .tup [.grw 1 (pl l W s y w h).1.length, .int .i64 (pl l W s y w h).2], ⟨2, 1, [(1, .arr [.int .i64, .int .i64, .int .i64, .int .i64, .int .i64] .grow (.recs (pl l W s y w h).1))]⟩, rfl, rfl, rfl, rfl, ?_, ?_, ⟨rfl, rfl⟩⟩
    · rw [eP]; (repeat' first | exact trivial | exact rfl | refine And.intro ?_ ?_)
      show (l ++ [prow l W s (at' C k) w h]).length = 0 + l.length + 1
      rw [List.length_append]; simp
    · rw [eP]; (repeat' first | exact trivial | exact rfl | refine And.intro ?_ ?_)
      show l ++ [prow l W s (at' C k) w h] = ([] ++ (l.drop 0).take l.length) ++ _
      rw [hrow, etk]; rfl
  have g : (s != 1) = false := g
  have hs2 : s = 1 := by simpa using g
  have hsd : s = 1 ∨ s = 2 := .inl hs2
  intro _
  refine high_test _ _ _ ?_
  intro _; refine ⟨fun g => ?_, fun g => ?_⟩
  · have q : (!decide (0 ≤ y ∧ y ≤ 1000000000)) = true := g
    rw [Bool.not_eq_true'] at q
    have q := of_decide_eq_false q
    have eP := pl_bad (fun g : Pv l W s y w h => q g.2.2.1)
    intro _
    refine ⟨[(1, none)], .tup [.grw 1 (pl l W s y w h).1.length, .int .i64 (pl l W s y w h).2], ⟨2, 1, [(1, .arr [.int .i64, .int .i64, .int .i64, .int .i64, .int .i64] .grow (.recs (pl l W s y w h).1))]⟩, rfl, rfl, rfl, rfl, ?_, ?_, ⟨rfl, rfl⟩⟩
    · rw [eP]; (repeat' first | exact trivial | exact rfl | refine And.intro ?_ ?_)
    · rw [eP]; (repeat' first | exact trivial | exact rfl | refine And.intro ?_ ?_)
  have g : (!decide (0 ≤ y ∧ y ≤ 1000000000)) = false := g
  rw [Bool.not_eq_false'] at g
  have hy := of_decide_eq_true g
  intro _
  refine len_test _ _ _ ?_
  intro _; refine ⟨fun g => ?_, fun g => ?_⟩
  · have q : (!decide (0 ≤ w ∧ w ≤ 1000000)) = true := g
    rw [Bool.not_eq_true'] at q
    have q := of_decide_eq_false q
    have eP := pl_bad (fun g : Pv l W s y w h => q g.2.2.2.1)
    intro _
    refine ⟨[(1, none)], .tup [.grw 1 (pl l W s y w h).1.length, .int .i64 (pl l W s y w h).2], ⟨2, 1, [(1, .arr [.int .i64, .int .i64, .int .i64, .int .i64, .int .i64] .grow (.recs (pl l W s y w h).1))]⟩, rfl, rfl, rfl, rfl, ?_, ?_, ⟨rfl, rfl⟩⟩
    · rw [eP]; (repeat' first | exact trivial | exact rfl | refine And.intro ?_ ?_)
    · rw [eP]; (repeat' first | exact trivial | exact rfl | refine And.intro ?_ ?_)
  have g : (!decide (0 ≤ w ∧ w ≤ 1000000)) = false := g
  rw [Bool.not_eq_false'] at g
  have hw := of_decide_eq_true g
  intro _
  refine len_test _ _ _ ?_
  intro _; refine ⟨fun g => ?_, fun g => ?_⟩
  · have q : (!decide (0 ≤ h ∧ h ≤ 1000000)) = true := g
    rw [Bool.not_eq_true'] at q
    have q := of_decide_eq_false q
    have eP := pl_bad (fun g : Pv l W s y w h => q g.2.2.2.2)
    intro _
    refine ⟨[(1, none)], .tup [.grw 1 (pl l W s y w h).1.length, .int .i64 (pl l W s y w h).2], ⟨2, 1, [(1, .arr [.int .i64, .int .i64, .int .i64, .int .i64, .int .i64] .grow (.recs (pl l W s y w h).1))]⟩, rfl, rfl, rfl, rfl, ?_, ?_, ⟨rfl, rfl⟩⟩
    · rw [eP]; (repeat' first | exact trivial | exact rfl | refine And.intro ?_ ?_)
    · rw [eP]; (repeat' first | exact trivial | exact rfl | refine And.intro ?_ ?_)
  have g : (!decide (0 ≤ h ∧ h ≤ 1000000)) = false := g
  rw [Bool.not_eq_false'] at g
  have hh := of_decide_eq_true g
  have hPv : Pv l W s y w h := ⟨hV, hsd, hy, hw, hh⟩
  intro _; refine ⟨fun g => ?_, fun g => ?_⟩
  · have g : ((l.length : Int) == 200) = true := g
    have g : (l.length : Int) = 200 := by simpa using g
    have eP := pl_full hPv (by omega)
    intro _
    refine ⟨[(1, none)], .tup [.grw 1 (pl l W s y w h).1.length, .int .i64 (pl l W s y w h).2], ⟨2, 1, [(1, .arr [.int .i64, .int .i64, .int .i64, .int .i64, .int .i64] .grow (.recs (pl l W s y w h).1))]⟩, rfl, rfl, rfl, rfl, ?_, ?_, ⟨rfl, rfl⟩⟩
    · rw [eP]; (repeat' first | exact trivial | exact rfl | refine And.intro ?_ ?_)
    · rw [eP]; (repeat' first | exact trivial | exact rfl | refine And.intro ?_ ?_)
  have g : ((l.length : Int) == 200) = false := g
  have h200 : ¬ l.length = 200 := fun e => by rw [e] at g; simp at g
  intro _
  refine heights_sem l y W s w h (by have := hV.1.1; omega) hV.2 hy _ ?_
  intro C e hE
  intro _
  refine range_ok ?_
  intro _
  refine enter tt_ok Try.func38 (nt := 16) (cd := body Try.f38) rfl rfl rfl rfl ?_
  intro _
  refine loop2 tt_ok [7] [] 11 (fun k : { k : Nat // k ≤ e ∧ ∀ p, p < k → ¬ FreeAt l W (at' C p) w h } => [(7, .int .i64 (k.1 : Nat))]) (fun _ => []) (fun k => e - k.1) ⟨0, by omega, fun p hp => by omega⟩ ?_
  intro _
  refine ⟨⟨th [] 11, rfl, rfl, rfl, rfl, rfl, rfl, ?_, ?_⟩, ?_⟩
  · (repeat' first | exact trivial | exact rfl | refine And.intro ?_ ?_)
  · (repeat' first | exact trivial | exact rfl | refine And.intro ?_ ?_)
  intro ⟨k, hk, hb⟩
  intro _; refine ⟨fun g => ?_, fun g => ?_⟩
  rotate_left
  · have hkl := of_decide_eq_false (show decide ((k : Int) < (e : Int)) = false from g)
    obtain rfl : k = e := by omega
    exact (hE.last hb).elim
  have hke : k < e := by have := of_decide_eq_true (show decide ((k : Int) < (e : Int)) = true from g); omega
  have hcl := hE.le
  have eat : 0 + (k : Int).toNat = k := by omega
  have h2c : l.length ≤ 200 := hV.1.1
  have eC : C.getD (0 + (k : Int).toNat) 0 = at' C k := by rw [eat]; rfl
  have hki := hE.idx hV.2 hy k hke
  have hcb := cand_bd hV.2 hy ((hE.mem _).1 ⟨k, hke, rfl⟩)
  intro _; refine ⟨show 0 ≤ (k : Int) ∧ (k : Int) < (e : Int) by omega, ?_⟩
  intro _; refine ⟨show 0 + (k : Int).toNat < C.length by omega, ?_⟩
  intro _
  refine yield_ok tt_ok ?_
  intro _
  refine call_pure [(0, some 0)] (room_ok2 l W (at' C k) h hl hV hcb hh) rfl rfl rfl ?_ ?_ ?_
  · (repeat' first | exact trivial | exact rfl | refine And.intro ?_ ?_)
  · (repeat' first | exact trivial | exact rfl | refine And.intro ?_ ?_)
    show at' C k = C.getD (0 + (k : Int).toNat) 0
    rw [eat]; rfl
  intro v hv _
  subst hv
  have hLo := lo_bd (y := at' C k) (h := h) hV l.length (Nat.le_refl _)
  have hHi := hi_bd (y := at' C k) (h := h) hV l.length (Nat.le_refl _)
  have ew : IntKind.i64.wrap (max (Hi l W (at' C k) h l.length) (Lo l (at' C k) h l.length) - Lo l (at' C k) h l.length) = max (Hi l W (at' C k) h l.length) (Lo l (at' C k) h l.length) - Lo l (at' C k) h l.length := wrapS _ ⟨by omega, by omega⟩
  have ew2 : IntKind.i64.wrap (max (Hi l W (at' C k) h l.length) (Lo l (at' C k) h l.length) - w) = max (Hi l W (at' C k) h l.length) (Lo l (at' C k) h l.length) - w := wrapS _ ⟨by omega, by omega⟩
  intro _; refine ⟨fun g => ?_, fun g => ?_⟩
  · have g : (!Fr l (at' C k) h l.length) = true := g
    rw [Bool.not_eq_true'] at g
    have hf0 := g
    intro _; refine ⟨fun g => ?_, fun g => ?_⟩
    · have g := of_decide_eq_true (show decide (w > IntKind.i64.wrap (max (Hi l W (at' C k) h l.length) (Lo l (at' C k) h l.length) - Lo l (at' C k) h l.length)) = true from g)
      rw [ew] at g
      have hfr : ¬ FreeAt l W (at' C k) w h := fun q => q.elim (fun q => by rw [hf0] at q; cases q) (fun q => by omega)
      intro _
      refine ⟨⟨k + 1, by omega, fun p hp => ?_⟩, by show e - (k + 1) < e - k; omega, th [] 11, rfl, rfl, rfl, rfl, rfl, rfl, ?_, ?_⟩
      · by_cases c : p = k
        · subst c; exact hfr
        · exact hb p (by omega)
      · (repeat' first | exact trivial | exact rfl | refine And.intro ?_ ?_)
        exact (wrap_nat k (by omega)).symm
      · (repeat' first | exact trivial | exact rfl | refine And.intro ?_ ?_)
    have g := of_decide_eq_false (show decide (w > IntKind.i64.wrap (max (Hi l W (at' C k) h l.length) (Lo l (at' C k) h l.length) - Lo l (at' C k) h l.length)) = false from g)
    rw [ew] at g
    have hfr : FreeAt l W (at' C k) w h := .inr (by omega)
    intro _; refine ⟨fun g => absurd (of_decide_eq_true (show decide (s = 2) = true by simpa using g)) (by omega), fun g => ?_⟩
    have hPA := hE.pa hke hb hfr
    intro _
    intro _
    intro _
    refine high_test _ _ _ ?_
    intro _; refine ⟨fun g => ?_, fun g => ?_⟩
    · have g : (!decide (0 ≤ C.getD (0 + (k : Int).toNat) 0 ∧ C.getD (0 + (k : Int).toNat) 0 ≤ 1000000000)) = true := g
      rw [eC, Bool.not_eq_true'] at g
      have g := of_decide_eq_false g
      have eP := pl_far hPv h200 hPA (by omega)
      intro _
      refine ⟨[(1, none)], .tup [.grw 1 (pl l W s y w h).1.length, .int .i64 (pl l W s y w h).2], ⟨2, 1, [(1, .arr [.int .i64, .int .i64, .int .i64, .int .i64, .int .i64] .grow (.recs (pl l W s y w h).1))]⟩, rfl, rfl, rfl, rfl, ?_, ?_, ⟨rfl, rfl⟩⟩
      · rw [eP]; (repeat' first | exact trivial | exact rfl | refine And.intro ?_ ?_)
      · rw [eP]; (repeat' first | exact trivial | exact rfl | refine And.intro ?_ ?_)
    have g : (!decide (0 ≤ C.getD (0 + (k : Int).toNat) 0 ∧ C.getD (0 + (k : Int).toNat) 0 ≤ 1000000000)) = false := g
    rw [eC, Bool.not_eq_false'] at g
    have g := of_decide_eq_true g
    have eP := pl_ok hPv h200 hPA (by omega)
    have hrow : prow l W s (at' C k) w h = [D.n s, D.n (Lo l (at' C k) h l.length), D.n (C.getD (0 + (k : Int).toNat) 0), D.n w, D.n h] := by
      unfold prow px; rw [if_neg (show ¬ s = 2 by omega), eC]
    intro _; refine Or.inl ?_
    intro _
    refine enter tt_ok Try.func30 (nt := 8) (cd := body Try.f30) rfl rfl rfl rfl ?_
    intro _; intro bq hbq
    intro _; refine ⟨fun g => ?_, fun g => ?_⟩
    · have hl0 : l.length = 0 := hbq g
      have hlE : l = [] := List.length_eq_zero_iff.1 hl0
      intro _
      intro _; refine Or.inl ?_
      intro _; refine ⟨rfl, ?_⟩
      intro _; refine ⟨fun g3 => by simp at g3, fun _ => ?_⟩
      refine ⟨⟨by omega, by omega⟩, ?_⟩
      intro _; refine ⟨by kernel_rfl, ?_⟩
      intro _
      refine ⟨[(1, some 13)], .tup [.grw 1 (pl l W s y w h).1.length, .int .i64 (pl l W s y w h).2], ⟨2, 1, [(1, .arr [.int .i64, .int .i64, .int .i64, .int .i64, .int .i64] .grow (.recs (pl l W s y w h).1))]⟩, rfl, rfl, rfl, rfl, ?_, ?_, ⟨rfl, rfl⟩⟩
      · rw [eP]; (repeat' first | exact trivial | exact rfl | refine And.intro ?_ ?_)
        show (l ++ [prow l W s (at' C k) w h]).length = 1
        rw [hlE]; rfl
      · rw [eP]; (repeat' first | exact trivial | exact rfl | refine And.intro ?_ ?_)
        show l ++ [prow l W s (at' C k) w h] = _
        exact (show ∀ r : List D, l ++ [r] = [r] from fun r => by rw [hlE]; rfl) _ |>.trans (congrArg (fun r => [r]) hrow)
    intro _; refine ⟨show 0 + l.length ≤ l.length by omega, ?_⟩
    have etk : (l.drop 0).take l.length = l := by simp
    intro _; refine ⟨fun g3 => ?_, fun g3 => ?_⟩
    · have hl0 : l.length = 0 := Nat.eq_of_beq_eq_true g3
      have hlE : l = [] := List.length_eq_zero_iff.1 hl0
      intro _
      intro _; refine Or.inl ?_
      intro _; refine ⟨rfl, ?_⟩
      intro _; refine ⟨fun g3 => by simp at g3, fun _ => ?_⟩
      refine ⟨⟨rfl, by omega, by omega⟩, ?_⟩
      intro _; refine ⟨by kernel_rfl, ?_⟩
      intro _
      refine ⟨[(1, some 14)], .tup [.grw 1 (pl l W s y w h).1.length, .int .i64 (pl l W s y w h).2], ⟨2, 1, [(1, .arr [.int .i64, .int .i64, .int .i64, .int .i64, .int .i64] .grow (.recs (pl l W s y w h).1))]⟩, rfl, rfl, rfl, rfl, ?_, ?_, ⟨rfl, rfl⟩⟩
      · rw [eP]; (repeat' first | exact trivial | exact rfl | refine And.intro ?_ ?_)
        show (l ++ [prow l W s (at' C k) w h]).length = 0 + 1
        rw [hlE]; rfl
      · rw [eP]; (repeat' first | exact trivial | exact rfl | refine And.intro ?_ ?_)
        show l ++ [prow l W s (at' C k) w h] = _
        exact (show ∀ r : List D, l ++ [r] = [r] from fun r => by rw [hlE]; rfl) _ |>.trans (congrArg (fun r => [r]) hrow)
    refine ⟨⟨rfl, by show 0 + l.length ≤ _; omega, by show (0 + l.length) * 40 ≤ _; omega⟩, ?_⟩
    intro _
    intro _; refine Or.inr ?_
    intro _; refine ⟨rfl, ?_⟩
    intro _; refine ⟨fun g3 => by simp at g3, fun _ => ?_⟩
    refine ⟨⟨by show 0 + l.length = ([] ++ (l.drop 0).take l.length : Rows).length; rw [etk]; simp, by show 0 + l.length + 1 ≤ _; omega, by show (0 + l.length + 1) * 40 ≤ _; omega⟩, ?_⟩
    intro _; refine ⟨by kernel_rfl, ?_⟩
    intro _
    refine ⟨[(1, some 15)], .tup [.grw 1 (pl l W s y w h).1.length, .int .i64 (pl l W s y w h).2], ⟨2, 1, [(1, .arr [.int .i64, .int .i64, .int .i64, .int .i64, .int .i64] .grow (.recs (pl l W s y w h).1))]⟩, rfl, rfl, rfl, rfl, ?_, ?_, ⟨rfl, rfl⟩⟩
    · rw [eP]; (repeat' first | exact trivial | exact rfl | refine And.intro ?_ ?_)
      show (l ++ [prow l W s (at' C k) w h]).length = 0 + l.length + 1
      rw [List.length_append]; simp
    · rw [eP]; (repeat' first | exact trivial | exact rfl | refine And.intro ?_ ?_)
      show l ++ [prow l W s (at' C k) w h] = ([] ++ (l.drop 0).take l.length) ++ _
      rw [hrow, etk]; rfl
  have g : (!Fr l (at' C k) h l.length) = false := g
  rw [Bool.not_eq_false'] at g
  have hfr : FreeAt l W (at' C k) w h := .inl g
  intro _; refine ⟨fun g => absurd (of_decide_eq_true (show decide (s = 2) = true by simpa using g)) (by omega), fun g => ?_⟩
  have hPA := hE.pa hke hb hfr
  intro _
  intro _
  intro _
  refine high_test _ _ _ ?_
  intro _; refine ⟨fun g => ?_, fun g => ?_⟩
  · have g : (!decide (0 ≤ C.getD (0 + (k : Int).toNat) 0 ∧ C.getD (0 + (k : Int).toNat) 0 ≤ 1000000000)) = true := g
    rw [eC, Bool.not_eq_true'] at g
    have g := of_decide_eq_false g
    have eP := pl_far hPv h200 hPA (by omega)
    intro _
    refine ⟨[(1, none)], .tup [.grw 1 (pl l W s y w h).1.length, .int .i64 (pl l W s y w h).2], ⟨2, 1, [(1, .arr [.int .i64, .int .i64, .int .i64, .int .i64, .int .i64] .grow (.recs (pl l W s y w h).1))]⟩, rfl, rfl, rfl, rfl, ?_, ?_, ⟨rfl, rfl⟩⟩
    · rw [eP]; (repeat' first | exact trivial | exact rfl | refine And.intro ?_ ?_)
    · rw [eP]; (repeat' first | exact trivial | exact rfl | refine And.intro ?_ ?_)
  have g : (!decide (0 ≤ C.getD (0 + (k : Int).toNat) 0 ∧ C.getD (0 + (k : Int).toNat) 0 ≤ 1000000000)) = false := g
  rw [eC, Bool.not_eq_false'] at g
  have g := of_decide_eq_true g
  have eP := pl_ok hPv h200 hPA (by omega)
  have hrow : prow l W s (at' C k) w h = [D.n s, D.n (Lo l (at' C k) h l.length), D.n (C.getD (0 + (k : Int).toNat) 0), D.n w, D.n h] := by
    unfold prow px; rw [if_neg (show ¬ s = 2 by omega), eC]
  intro _; refine Or.inl ?_
  intro _
  refine enter tt_ok Try.func30 (nt := 8) (cd := body Try.f30) rfl rfl rfl rfl ?_
  intro _; intro bq hbq
  intro _; refine ⟨fun g => ?_, fun g => ?_⟩
  · have hl0 : l.length = 0 := hbq g
    have hlE : l = [] := List.length_eq_zero_iff.1 hl0
    intro _
    intro _; refine Or.inl ?_
    intro _; refine ⟨rfl, ?_⟩
    intro _; refine ⟨fun g3 => by simp at g3, fun _ => ?_⟩
    refine ⟨⟨by omega, by omega⟩, ?_⟩
    intro _; refine ⟨by kernel_rfl, ?_⟩
    intro _
    refine ⟨[(1, some 13)], .tup [.grw 1 (pl l W s y w h).1.length, .int .i64 (pl l W s y w h).2], ⟨2, 1, [(1, .arr [.int .i64, .int .i64, .int .i64, .int .i64, .int .i64] .grow (.recs (pl l W s y w h).1))]⟩, rfl, rfl, rfl, rfl, ?_, ?_, ⟨rfl, rfl⟩⟩
    · rw [eP]; (repeat' first | exact trivial | exact rfl | refine And.intro ?_ ?_)
      show (l ++ [prow l W s (at' C k) w h]).length = 1
      rw [hlE]; rfl
    · rw [eP]; (repeat' first | exact trivial | exact rfl | refine And.intro ?_ ?_)
      show l ++ [prow l W s (at' C k) w h] = _
      exact (show ∀ r : List D, l ++ [r] = [r] from fun r => by rw [hlE]; rfl) _ |>.trans (congrArg (fun r => [r]) hrow)
  intro _; refine ⟨show 0 + l.length ≤ l.length by omega, ?_⟩
  have etk : (l.drop 0).take l.length = l := by simp
  intro _; refine ⟨fun g3 => ?_, fun g3 => ?_⟩
  · have hl0 : l.length = 0 := Nat.eq_of_beq_eq_true g3
    have hlE : l = [] := List.length_eq_zero_iff.1 hl0
    intro _
    intro _; refine Or.inl ?_
    intro _; refine ⟨rfl, ?_⟩
    intro _; refine ⟨fun g3 => by simp at g3, fun _ => ?_⟩
    refine ⟨⟨rfl, by omega, by omega⟩, ?_⟩
    intro _; refine ⟨by kernel_rfl, ?_⟩
    intro _
    refine ⟨[(1, some 14)], .tup [.grw 1 (pl l W s y w h).1.length, .int .i64 (pl l W s y w h).2], ⟨2, 1, [(1, .arr [.int .i64, .int .i64, .int .i64, .int .i64, .int .i64] .grow (.recs (pl l W s y w h).1))]⟩, rfl, rfl, rfl, rfl, ?_, ?_, ⟨rfl, rfl⟩⟩
    · rw [eP]; (repeat' first | exact trivial | exact rfl | refine And.intro ?_ ?_)
      show (l ++ [prow l W s (at' C k) w h]).length = 0 + 1
      rw [hlE]; rfl
    · rw [eP]; (repeat' first | exact trivial | exact rfl | refine And.intro ?_ ?_)
      show l ++ [prow l W s (at' C k) w h] = _
      exact (show ∀ r : List D, l ++ [r] = [r] from fun r => by rw [hlE]; rfl) _ |>.trans (congrArg (fun r => [r]) hrow)
  refine ⟨⟨rfl, by show 0 + l.length ≤ _; omega, by show (0 + l.length) * 40 ≤ _; omega⟩, ?_⟩
  intro _
  intro _; refine Or.inr ?_
  intro _; refine ⟨rfl, ?_⟩
  intro _; refine ⟨fun g3 => by simp at g3, fun _ => ?_⟩
  refine ⟨⟨by show 0 + l.length = ([] ++ (l.drop 0).take l.length : Rows).length; rw [etk]; simp, by show 0 + l.length + 1 ≤ _; omega, by show (0 + l.length + 1) * 40 ≤ _; omega⟩, ?_⟩
  intro _; refine ⟨by kernel_rfl, ?_⟩
  intro _
  refine ⟨[(1, some 15)], .tup [.grw 1 (pl l W s y w h).1.length, .int .i64 (pl l W s y w h).2], ⟨2, 1, [(1, .arr [.int .i64, .int .i64, .int .i64, .int .i64, .int .i64] .grow (.recs (pl l W s y w h).1))]⟩, rfl, rfl, rfl, rfl, ?_, ?_, ⟨rfl, rfl⟩⟩
  · rw [eP]; (repeat' first | exact trivial | exact rfl | refine And.intro ?_ ?_)
    show (l ++ [prow l W s (at' C k) w h]).length = 0 + l.length + 1
    rw [List.length_append]; simp
  · rw [eP]; (repeat' first | exact trivial | exact rfl | refine And.intro ?_ ?_)
    show l ++ [prow l W s (at' C k) w h] = ([] ++ (l.drop 0).take l.length) ++ _
    rw [hrow, etk]; rfl
theorem list_max : ∀ (L : List Int), L ≠ [] → ∃ v, v ∈ L ∧ ∀ u, u ∈ L → u ≤ v
  | [], h => absurd rfl h
  | [a], _ => ⟨a, by simp, fun u hu => by simp at hu; omega⟩
  | a :: b :: L, _ => by
    obtain ⟨v, h1, h2⟩ := list_max (b :: L) (by simp)
    by_cases c : a ≤ v
    · exact ⟨v, List.mem_cons_of_mem _ h1, fun u hu => by
        rcases List.mem_cons.1 hu with rfl | hu
        · exact c
        · exact h2 u hu⟩
    · exact ⟨a, by simp, fun u hu => by
        rcases List.mem_cons.1 hu with rfl | hu
        · omega
        · have := h2 u hu; omega⟩
theorem list_least {p : Int → Prop} : ∀ (L : List Int), (∃ v, v ∈ L ∧ p v) → ∃ v, (v ∈ L ∧ p v) ∧ ∀ u, u ∈ L → u < v → ¬ p u
  | [], h => by obtain ⟨v, h, _⟩ := h; exact (List.not_mem_nil h).elim
  | a :: L, h => by
    by_cases c : ∃ v, v ∈ L ∧ p v
    · obtain ⟨v, ⟨h1, h2⟩, h3⟩ := list_least L c
      by_cases q : p a ∧ a < v
      · refine ⟨a, ⟨by simp, q.1⟩, fun u hu hlt => ?_⟩
        rcases List.mem_cons.1 hu with rfl | hu
        · omega
        · exact h3 u hu (by omega)
      · refine ⟨v, ⟨List.mem_cons_of_mem _ h1, h2⟩, fun u hu hlt => ?_⟩
        rcases List.mem_cons.1 hu with rfl | hu
        · exact fun hp => q ⟨hp, hlt⟩
        · exact h3 u hu hlt
    · obtain ⟨v, h1, h2⟩ := h
      rcases List.mem_cons.1 h1 with rfl | h1
      · refine ⟨v, ⟨by simp, h2⟩, fun u hu hlt hp => ?_⟩
        rcases List.mem_cons.1 hu with rfl | hu
        · omega
        · exact c ⟨u, hu, hp⟩
      · exact absurd ⟨v, h1, h2⟩ c
theorem PA_ex (l : Rows) (W y w h : Int) : ∃ a, PA l W y w h a := by
  have hm : ∀ v, v ∈ en l (mx l y l.length) l.length ↔ Cand l (mx l y l.length) v := fun v => en_mem _
  have h0 : mx l y l.length ∈ en l (mx l y l.length) l.length := (hm _).2 (.inl rfl)
  obtain ⟨v, v1, v2⟩ := list_max (en l (mx l y l.length) l.length) (fun e => by rw [e] at h0; exact (List.not_mem_nil h0).elim)
  have hf : FreeAt l W v w h := by
    refine Classical.byContradiction fun c => ?_
    obtain ⟨i, i1, i2⟩ := free_no c
    have hfv := v2 _ h0
    have := v2 (fy l i + fh l i) ((hm _).2 (.inr ⟨i, i1, rfl, by omega⟩))
    omega
  obtain ⟨a, ⟨a1, a2⟩, a3⟩ := list_least (p := fun a => FreeAt l W a w h) (en l (mx l y l.length) l.length) ⟨v, v1, hf⟩
  exact ⟨a, ⟨(hm a).1 a1, a2⟩, fun b hb hlt => a3 b ((hm b).2 hb) hlt⟩
theorem pa_spec (l : Rows) (W y w h : Int) : PA l W y w h (pa l W y w h) := Classical.epsilon_spec (PA_ex l W y w h)
/-! floats that are placed one after the other -/
def qs (L : Rows) (i : Nat) : Int := ((L.getD i []).getD 0 (D.n 0)).int
def qy (L : Rows) (i : Nat) : Int := ((L.getD i []).getD 1 (D.n 0)).int
def qw (L : Rows) (i : Nat) : Int := ((L.getD i []).getD 2 (D.n 0)).int
def qh (L : Rows) (i : Nat) : Int := ((L.getD i []).getD 3 (D.n 0)).int
def Pb (L : Rows) : Prop := ∀ i, i < L.length → (0 ≤ qs L i ∧ qs L i ≤ 255) ∧ (0 ≤ qy L i ∧ qy L i ≤ 65535) ∧ (0 ≤ qw L i ∧ qw L i ≤ 65535) ∧ (0 ≤ qh L i ∧ qh L i ≤ 65535)
def sdm (L : Rows) (m : Bool) (i : Nat) : Int := if m then 3 - (1 + (qs L i).tmod 2) else 1 + (qs L i).tmod 2
def wdt (L : Rows) (W : Int) (i : Nat) : Int := min W (1 + (qw L i).tmod (max 1 W))
noncomputable def pls (L : Rows) (W : Int) (m : Bool) : Nat → Rows
  | 0 => []
  | i + 1 => (pl (pls L W m i) W (sdm L m i) (qy L i) (wdt L W i) (qh L i)).1
noncomputable def hgt (L : Rows) (W : Int) (m : Bool) (i : Nat) : Int := pa (pls L W m i) W (qy L i) (wdt L W i) (qh L i)
noncomputable def frow (L : Rows) (W : Int) (m : Bool) (i : Nat) : List D := prow (pls L W m i) W (sdm L m i) (hgt L W m i) (wdt L W i) (qh L i)
theorem sdm_bd {L : Rows} (h : Pb L) (m : Bool) {i : Nat} (hi : i < L.length) : sdm L m i = 1 ∨ sdm L m i = 2 := by
  obtain ⟨h1, _⟩ := h i hi
  have := Int.tmod_nonneg 2 h1.1
  have := Int.tmod_lt_of_pos (qs L i) (show (0 : Int) < 2 by omega)
  unfold sdm
  split <;> omega
theorem wdt_bd {L : Rows} (h : Pb L) {W : Int} (hW : 0 ≤ W ∧ W ≤ 65535) {i : Nat} (hi : i < L.length) : 0 ≤ wdt L W i ∧ wdt L W i ≤ W ∧ (1 ≤ W → 1 ≤ wdt L W i) := by
  obtain ⟨_, _, h1, _⟩ := h i hi
  have := Int.tmod_nonneg (max 1 W) h1.1
  unfold wdt
  omega
theorem prow_get (l : Rows) (W s a w h : Int) : sd (l ++ [prow l W s a w h]) l.length = s ∧ fx (l ++ [prow l W s a w h]) l.length = px l W s a w h ∧ fy (l ++ [prow l W s a w h]) l.length = a ∧ fw (l ++ [prow l W s a w h]) l.length = w ∧ fh (l ++ [prow l W s a w h]) l.length = h := by
  unfold sd fx fy fw fh
  rw [app_last]
  exact ⟨rfl, rfl, rfl, rfl, rfl⟩
theorem prow_old {l : Rows} {r : List D} {i : Nat} (hi : i < l.length) : sd (l ++ [r]) i = sd l i ∧ fx (l ++ [r]) i = fx l i ∧ fy (l ++ [r]) i = fy l i ∧ fw (l ++ [r]) i = fw l i ∧ fh (l ++ [r]) i = fh l i := by
  unfold sd fx fy fw fh
  rw [app_get hi]
  exact ⟨rfl, rfl, rfl, rfl, rfl⟩
/-- what is known of the first ones -/
structure Gd (L : Rows) (W : Int) (m : Bool) (i : Nat) : Prop where
  len : (pls L W m i).length = i
  fl : ∀ k, k < i → Fl (pls L W m i) k
  far : ∀ k, k < i → fy (pls L W m i) k + fh (pls L W m i) k ≤ 65535 * ((i : Int) + 1)
  inw : ∀ k, k < i → 0 ≤ fx (pls L W m i) k ∧ fx (pls L W m i) k + fw (pls L W m i) k ≤ W
theorem Gd.vd {L : Rows} {W : Int} {m : Bool} {i : Nat} (g : Gd L W m i) (hi : i ≤ 20) (hW : 0 ≤ W ∧ W ≤ 65535) : Vd (pls L W m i) W := ⟨⟨by rw [g.len]; omega, by omega, by omega⟩, fun k hk => g.fl k (by rw [g.len] at hk; exact hk)⟩
theorem px_in {l : Rows} {W s a w h : Int} (hV : Vd l W) (hw : 0 ≤ w ∧ w ≤ W ∧ (1 ≤ W → 1 ≤ w)) (hf : FreeAt l W a w h) (hin : ∀ k, k < l.length → 0 ≤ fx l k ∧ fx l k + fw l k ≤ W) : 0 ≤ px l W s a w h ∧ px l W s a w h + w ≤ W ∧ Lo l a h l.length ≤ px l W s a w h ∧ (1 ≤ w → px l W s a w h + w ≤ Hi l W a h l.length) := by
  have lo : ∀ k, k ≤ l.length → 0 ≤ Lo l a h k ∧ Lo l a h k ≤ W := by
    intro k
    induction k with
    | zero => intro _; have := hV.1.2; exact ⟨Int.le_refl _, this.1⟩
    | succ k ih =>
      intro hk
      have := ih (by omega)
      have := hin k (by omega)
      show 0 ≤ (if hs l a h k = true ∧ sd l k = 1 then max (Lo l a h k) (fx l k + fw l k) else Lo l a h k) ∧ (if hs l a h k = true ∧ sd l k = 1 then max (Lo l a h k) (fx l k + fw l k) else Lo l a h k) ≤ W
      split <;> omega
  have hi : ∀ k, k ≤ l.length → 0 ≤ Hi l W a h k ∧ Hi l W a h k ≤ W := by
    intro k
    induction k with
    | zero => intro _; have := hV.1.2; exact ⟨this.1, Int.le_refl _⟩
    | succ k ih =>
      intro hk
      have := ih (by omega)
      have := hin k (by omega)
      have q := (hV.2 k (by omega)).2.1
      show 0 ≤ (if hs l a h k = true ∧ sd l k ≠ 1 then min (Hi l W a h k) (fx l k) else Hi l W a h k) ∧ (if hs l a h k = true ∧ sd l k ≠ 1 then min (Hi l W a h k) (fx l k) else Hi l W a h k) ≤ W
      split <;> omega
  have l1 := lo l.length (Nat.le_refl _)
  have h1 := hi l.length (Nat.le_refl _)
  have key : w ≤ max (Hi l W a h l.length) (Lo l a h l.length) - Lo l a h l.length := by
    rcases hf with hf | hf
    · have none : ∀ k, k ≤ l.length → Fr l a h k = true → Lo l a h k = 0 ∧ Hi l W a h k = W := by
        intro k
        induction k with
        | zero => intro _ _; exact ⟨rfl, rfl⟩
        | succ k ih =>
          intro hk e
          have e : (!hs l a h k && Fr l a h k) = true := e
          rw [Bool.and_eq_true, Bool.not_eq_true'] at e
          have := ih (by omega) e.2
          refine ⟨?_, ?_⟩
          · show (if hs l a h k = true ∧ sd l k = 1 then max (Lo l a h k) (fx l k + fw l k) else Lo l a h k) = 0
            rw [if_neg (fun q => by rw [e.1] at q; cases q.1)]; exact this.1
          · show (if hs l a h k = true ∧ sd l k ≠ 1 then min (Hi l W a h k) (fx l k) else Hi l W a h k) = W
            rw [if_neg (fun q => by rw [e.1] at q; cases q.1)]; exact this.2
      have := none l.length (Nat.le_refl _) hf
      omega
    · exact hf
  unfold px
  split <;> omega
theorem Gd.zero (L : Rows) (W : Int) (m : Bool) : Gd L W m 0 := ⟨rfl, fun k hk => by omega, fun k hk => by omega, fun k hk => by omega⟩
theorem Gd.hgt {L : Rows} {W : Int} {m : Bool} {i : Nat} (g : Gd L W m i) (hL : Pb L) (hi : i < L.length) (h20 : L.length ≤ 20) : 0 ≤ hgt L W m i ∧ hgt L W m i ≤ 65535 * ((i : Int) + 1) := by
  obtain ⟨_, b2, _, b4⟩ := hL i hi
  have hp := (pa_spec (pls L W m i) W (qy L i) (wdt L W i) (qh L i)).1.1
  have hm := mx_bd (l := pls L W m i) (y := qy L i) (B := 65535 * ((i : Int) + 1)) ⟨b2.1, by omega⟩ (pls L W m i).length (fun k hk => by
    rw [g.len] at hk
    obtain ⟨_, _, _, f4, f5⟩ := g.fl k hk
    have := g.far k hk
    omega)
  unfold floatsApart.hgt
  rcases hp with e | ⟨k, k1, e, k3⟩
  · rw [e]; exact hm
  · rw [e]
    rw [g.len] at k1
    obtain ⟨_, _, _, f4, f5⟩ := g.fl k k1
    have := g.far k k1
    omega
theorem Gd.pv {L : Rows} {W : Int} {m : Bool} {i : Nat} (g : Gd L W m i) (hL : Pb L) (hW : 0 ≤ W ∧ W ≤ 65535) (hi : i < L.length) (h20 : L.length ≤ 20) : Pv (pls L W m i) W (sdm L m i) (qy L i) (wdt L W i) (qh L i) := by
  obtain ⟨_, b2, _, b4⟩ := hL i hi
  have hw := wdt_bd hL hW hi
  exact ⟨g.vd (by omega) hW, sdm_bd hL m hi, by omega, by omega, by omega⟩
theorem Gd.eq {L : Rows} {W : Int} {m : Bool} {i : Nat} (g : Gd L W m i) (hL : Pb L) (hW : 0 ≤ W ∧ W ≤ 65535) (hi : i < L.length) (h20 : L.length ≤ 20) : pl (pls L W m i) W (sdm L m i) (qy L i) (wdt L W i) (qh L i) = (pls L W m i ++ [frow L W m i], 0) :=
  pl_ok (g.pv hL hW hi h20) (by rw [g.len]; omega) (pa_spec _ _ _ _ _) (by
    have := g.hgt hL hi h20
    show ¬ floatsApart.hgt L W m i > 1000000000
    omega)
theorem Gd.suc {L : Rows} {W : Int} {m : Bool} {i : Nat} (g : Gd L W m i) (hL : Pb L) (hW : 0 ≤ W ∧ W ≤ 65535) (hi : i < L.length) (h20 : L.length ≤ 20) : pls L W m (i + 1) = pls L W m i ++ [frow L W m i] := by
  show (pl (pls L W m i) W (sdm L m i) (qy L i) (wdt L W i) (qh L i)).1 = _
  rw [g.eq hL hW hi h20]
theorem Gd.step {L : Rows} {W : Int} {m : Bool} {i : Nat} (g : Gd L W m i) (hL : Pb L) (hW : 0 ≤ W ∧ W ≤ 65535) (hi : i < L.length) (h20 : L.length ≤ 20) : Gd L W m (i + 1) := by
  have e := g.suc hL hW hi h20
  have hh := g.hgt hL hi h20
  obtain ⟨_, b2, _, b4⟩ := hL i hi
  have hw := wdt_bd hL hW hi
  have hp := px_in (s := sdm L m i) (g.vd (by omega) hW) hw (pa_spec (pls L W m i) W (qy L i) (wdt L W i) (qh L i)).1.2 (fun k hk => g.inw k (by rw [g.len] at hk; exact hk))
  obtain ⟨q1, q2, q3, q4, q5⟩ := prow_get (pls L W m i) W (sdm L m i) (floatsApart.hgt L W m i) (wdt L W i) (qh L i)
  have e' : pls L W m (i + 1) = pls L W m i ++ [prow (pls L W m i) W (sdm L m i) (floatsApart.hgt L W m i) (wdt L W i) (qh L i)] := e
  rw [← e', g.len] at q1 q2 q3 q4 q5
  have hs := sdm_bd hL m hi
  have hp : 0 ≤ px (pls L W m i) W (sdm L m i) (floatsApart.hgt L W m i) (wdt L W i) (qh L i) ∧ px (pls L W m i) W (sdm L m i) (floatsApart.hgt L W m i) (wdt L W i) (qh L i) + wdt L W i ≤ W := ⟨hp.1, hp.2.1⟩
  have old : ∀ k, k < i → sd (pls L W m (i + 1)) k = sd (pls L W m i) k ∧ fx (pls L W m (i + 1)) k = fx (pls L W m i) k ∧ fy (pls L W m (i + 1)) k = fy (pls L W m i) k ∧ fw (pls L W m (i + 1)) k = fw (pls L W m i) k ∧ fh (pls L W m (i + 1)) k = fh (pls L W m i) k := fun k hk => by
    rw [e]; exact prow_old (by rw [g.len]; exact hk)
  refine ⟨by rw [e]; simp [g.len], fun k hk => ?_, fun k hk => ?_, fun k hk => ?_⟩
  · by_cases c : k = i
    · subst c
      unfold Fl
      rw [q1, q2, q3, q4, q5]
      exact ⟨hs, by omega, by omega, by omega, by omega⟩
    · obtain ⟨o1, o2, o3, o4, o5⟩ := old k (by omega)
      unfold Fl
      rw [o1, o2, o3, o4, o5]
      exact g.fl k (by omega)
  · by_cases c : k = i
    · subst c; rw [q3, q5]; omega
    · obtain ⟨o1, o2, o3, o4, o5⟩ := old k (by omega)
      rw [o3, o5]
      have := g.far k (by omega); omega
  · by_cases c : k = i
    · subst c; rw [q2, q4]; exact hp
    · obtain ⟨o1, o2, o3, o4, o5⟩ := old k (by omega)
      rw [o2, o4]
      exact g.inw k (by omega)
theorem Gd.all {L : Rows} {W : Int} (m : Bool) (hL : Pb L) (hW : 0 ≤ W ∧ W ≤ 65535) (h20 : L.length ≤ 20) : ∀ i, i ≤ L.length → Gd L W m i
  | 0, _ => Gd.zero L W m
  | i + 1, h => (Gd.all m hL hW h20 i (by omega)).step hL hW (by omega) h20
set_option maxHeartbeats 4000000 in
theorem placed_ok (L : Rows) (W : Int) (m : Bool) (hL : Pb L) (hW : 0 ≤ W ∧ W ≤ 65535) (h20 : L.length ≤ 20) : SemF Try.prog 19 [.slc 0 4 0 L.length, .int .i64 W, .test m] ⟨1, 1, [(0, .arr [.int .u8, .int .u16, .int .u16, .int .u16] .rd (.recs L))]⟩ (fun v h' => v = .tup [.grw 1 (pls L W m L.length).length, .bool true] ∧ h' = ⟨2, 1, [(1, .arr [.int .i64, .int .i64, .int .i64, .int .i64, .int .i64] .grow (.recs (pls L W m L.length)))]⟩) := by
  refine SemF.ret ?_
  refine enter tt_ok Try.func19 (nt := 72) (cd := body Try.f19) rfl rfl rfl rfl ?_
  intro _
  refine loop2 tt_ok [9, 8] [1] 2 (fun i : { i : Nat // i ≤ L.length } => [(9, .int .i64 (i.1 : Nat)), (8, .grw 1 (pls L W m i.1).length)]) (fun i => [(1, .arr [.int .i64, .int .i64, .int .i64, .int .i64, .int .i64] .grow (.recs (pls L W m i.1)))]) (fun i => L.length - i.1) ⟨0, by omega⟩ ?_
  intro _
  refine ⟨⟨th [(1, none)] 2, rfl, rfl, rfl, rfl, rfl, rfl, ?_, ?_⟩, ?_⟩
  · (repeat' first | exact trivial | exact rfl | refine And.intro ?_ ?_)
  · (repeat' first | exact trivial | exact rfl | refine And.intro ?_ ?_)
  intro ⟨i, hi⟩
  have z : 0 + i = i := Nat.zero_add i
  intro _; refine ⟨fun g => ?_, fun g => ?_⟩
  rotate_left
  · have hkl := of_decide_eq_false (show decide ((i : Int) < (L.length : Int)) = false from g)
    obtain rfl : i = L.length := by omega
    intro _
    refine ⟨[(1, some 1)], .tup [.grw 1 (pls L W m L.length).length, .bool true], ⟨2, 1, [(1, .arr [.int .i64, .int .i64, .int .i64, .int .i64, .int .i64] .grow (.recs (pls L W m L.length)))]⟩, rfl, rfl, rfl, rfl, ?_, ?_, ⟨rfl, rfl⟩⟩
    · (repeat' first | exact trivial | exact rfl | refine And.intro ?_ ?_)
    · (repeat' first | exact trivial | exact rfl | refine And.intro ?_ ?_)
  have hil := of_decide_eq_true (show decide ((i : Int) < (L.length : Int)) = true from g)
  have hin : i < L.length := by omega
  have gd := Gd.all m hL hW h20 i hi
  obtain ⟨b1, b2, b3, b4⟩ := hL i hin
  have hm0 := Int.tmod_nonneg 2 b1.1
  have hm1 := Int.tmod_lt_of_pos (qs L i) (show (0 : Int) < 2 by omega)
  have hw0 := Int.tmod_nonneg (max 1 W) b3.1
  have hw1 := Int.tmod_lt_of_pos (qw L i) (show (0 : Int) < max 1 W by omega)
  intro _; refine ⟨show 0 ≤ (i : Int) ∧ (i : Int) < (L.length : Int) by omega, ?_⟩
  intro _; refine ⟨show 0 + (i : Int).toNat < L.length by omega, ?_⟩
  intro _; refine ⟨by decide, ?_⟩
  have eY : qy L i = IntKind.i64.wrap (qy L (0 + i)) := by rw [z, wrapS _ ⟨by omega, by omega⟩]
  have eH : qh L i = IntKind.i64.wrap (qh L (0 + i)) := by rw [z, wrapS _ ⟨by omega, by omega⟩]
  have eW : wdt L W i = min W (IntKind.i64.wrap (1 + (IntKind.i64.wrap (qw L (0 + i))).tmod (max 1 W))) := by
    rw [z, wrapS (qw L i) ⟨by omega, by omega⟩, wrapS _ ⟨by omega, by omega⟩]; rfl
  have eS1 : IntKind.i64.wrap (1 + (IntKind.i64.wrap (qs L (0 + i))).tmod 2) = 1 + (qs L i).tmod 2 := by
    rw [z, wrapS (qs L i) ⟨by omega, by omega⟩, wrapS _ ⟨by omega, by omega⟩]
  intro _; refine ⟨fun g => ?_, fun g => ?_⟩
  · have hm : m = true := g
    have eS : sdm L m i = IntKind.i64.wrap (3 - IntKind.i64.wrap (1 + (IntKind.i64.wrap (qs L (0 + i))).tmod 2)) := by
      rw [eS1, wrapS _ ⟨by omega, by omega⟩]; unfold sdm; rw [if_pos hm]
    intro _; refine ⟨show 0 ≤ (i : Int) ∧ (i : Int) < (L.length : Int) by omega, ?_⟩
    intro _; refine ⟨show 0 + (i : Int).toNat < L.length by omega, ?_⟩
    intro _; refine ⟨show 0 ≤ (i : Int) ∧ (i : Int) < (L.length : Int) by omega, ?_⟩
    intro _; refine ⟨show 0 + (i : Int).toNat < L.length by omega, ?_⟩
    intro _; refine ⟨show max 1 W ≠ 0 by omega, ?_⟩
    intro _; refine ⟨show 0 ≤ (i : Int) ∧ (i : Int) < (L.length : Int) by omega, ?_⟩
    intro _; refine ⟨show 0 + (i : Int).toNat < L.length by omega, ?_⟩
    intro _; refine Or.inl ?_
    intro _
    refine call_new [(0, some 1)] (place_ok (pls L W m i) W (sdm L m i) (qy L i) (wdt L W i) (qh L i) (by rw [gd.len]; omega)) rfl rfl rfl rfl ?_ ?_ ?_
    · (repeat' first | exact trivial | exact rfl | refine And.intro ?_ ?_)
    · (repeat' first | exact trivial | exact rfl | refine And.intro ?_ ?_)
      exact eS
      exact eY
      exact eW
      exact eH
    intro v h' hv
    obtain ⟨rfl, rfl⟩ := hv
    refine ⟨[(2, some 1)], 3, [(2, .arr [.int .i64, .int .i64, .int .i64, .int .i64, .int .i64] .grow (.recs (pl (pls L W m i) W (sdm L m i) (qy L i) (wdt L W i) (qh L i)).1))], .tup [.grw 2 (pl (pls L W m i) W (sdm L m i) (qy L i) (wdt L W i) (qh L i)).1.length, .int .i64 (pl (pls L W m i) W (sdm L m i) (qy L i) (wdt L W i) (qh L i)).2], rfl, rfl, rfl, rfl, rfl, ?_, ?_, ?_⟩
    · (repeat' first | exact trivial | exact rfl | refine And.intro ?_ ?_)
    · (repeat' first | exact trivial | exact rfl | refine And.intro ?_ ?_)
    intro _; refine ⟨by kernel_rfl, ?_⟩
    have eq := gd.eq hL hW hin h20
    have es := gd.suc hL hW hin h20
    have eS' : pls L W m (i + 1) = (pl (pls L W m i) W (sdm L m i) (qy L i) (wdt L W i) (qh L i)).1 := rfl
    have eln : (pls L W m (i + 1)).length = i + 1 := (gd.step hL hW hin h20).len
    rw [eS'] at eln
    intro _; refine ⟨fun g => ?_, fun g => ?_⟩
    · exfalso
      have g : ((pl (pls L W m i) W (sdm L m i) (qy L i) (wdt L W i) (qh L i)).2 != 0) = true := g
      rw [eq] at g; cases g
    intro _; refine ⟨fun g => ?_, fun g => ?_⟩
    · exfalso
      have g : (((pl (pls L W m i) W (sdm L m i) (qy L i) (wdt L W i) (qh L i)).1.length : Int) != IntKind.i64.wrap ((i : Int) + 1)) = true := g
      rw [eln, wrap_nat i (by omega)] at g
      simp at g
    refine ⟨⟨i + 1, by omega⟩, by show L.length - (i + 1) < L.length - i; omega, th [(1, some 2)] 2, rfl, rfl, rfl, rfl, rfl, rfl, ?_, ?_⟩
    · (repeat' first | exact trivial | exact rfl | refine And.intro ?_ ?_)
      · exact (wrap_nat i (by omega)).symm
    · (repeat' first | exact trivial | exact rfl | refine And.intro ?_ ?_)
  · have hm : m = false := g
    have eS : sdm L m i = IntKind.i64.wrap (1 + (IntKind.i64.wrap (qs L (0 + i))).tmod 2) := by
      rw [eS1]; unfold sdm; rw [if_neg (by rw [hm]; decide)]
    intro _; refine ⟨show 0 ≤ (i : Int) ∧ (i : Int) < (L.length : Int) by omega, ?_⟩
    intro _; refine ⟨show 0 + (i : Int).toNat < L.length by omega, ?_⟩
    intro _; refine ⟨show 0 ≤ (i : Int) ∧ (i : Int) < (L.length : Int) by omega, ?_⟩
    intro _; refine ⟨show 0 + (i : Int).toNat < L.length by omega, ?_⟩
    intro _; refine ⟨show max 1 W ≠ 0 by omega, ?_⟩
    intro _; refine ⟨show 0 ≤ (i : Int) ∧ (i : Int) < (L.length : Int) by omega, ?_⟩
    intro _; refine ⟨show 0 + (i : Int).toNat < L.length by omega, ?_⟩
    intro _; refine Or.inl ?_
    intro _
    refine call_new [(0, some 1)] (place_ok (pls L W m i) W (sdm L m i) (qy L i) (wdt L W i) (qh L i) (by rw [gd.len]; omega)) rfl rfl rfl rfl ?_ ?_ ?_
    · (repeat' first | exact trivial | exact rfl | refine And.intro ?_ ?_)
    · (repeat' first | exact trivial | exact rfl | refine And.intro ?_ ?_)
      exact eS
      exact eY
      exact eW
      exact eH
    intro v h' hv
    obtain ⟨rfl, rfl⟩ := hv
    refine ⟨[(2, some 1)], 3, [(2, .arr [.int .i64, .int .i64, .int .i64, .int .i64, .int .i64] .grow (.recs (pl (pls L W m i) W (sdm L m i) (qy L i) (wdt L W i) (qh L i)).1))], .tup [.grw 2 (pl (pls L W m i) W (sdm L m i) (qy L i) (wdt L W i) (qh L i)).1.length, .int .i64 (pl (pls L W m i) W (sdm L m i) (qy L i) (wdt L W i) (qh L i)).2], rfl, rfl, rfl, rfl, rfl, ?_, ?_, ?_⟩
    · (repeat' first | exact trivial | exact rfl | refine And.intro ?_ ?_)
    · (repeat' first | exact trivial | exact rfl | refine And.intro ?_ ?_)
    intro _; refine ⟨by kernel_rfl, ?_⟩
    have eq := gd.eq hL hW hin h20
    have es := gd.suc hL hW hin h20
    have eS' : pls L W m (i + 1) = (pl (pls L W m i) W (sdm L m i) (qy L i) (wdt L W i) (qh L i)).1 := rfl
    have eln : (pls L W m (i + 1)).length = i + 1 := (gd.step hL hW hin h20).len
    rw [eS'] at eln
    intro _; refine ⟨fun g => ?_, fun g => ?_⟩
    · exfalso
      have g : ((pl (pls L W m i) W (sdm L m i) (qy L i) (wdt L W i) (qh L i)).2 != 0) = true := g
      rw [eq] at g; cases g
    intro _; refine ⟨fun g => ?_, fun g => ?_⟩
    · exfalso
      have g : (((pl (pls L W m i) W (sdm L m i) (qy L i) (wdt L W i) (qh L i)).1.length : Int) != IntKind.i64.wrap ((i : Int) + 1)) = true := g
      rw [eln, wrap_nat i (by omega)] at g
      simp at g
    refine ⟨⟨i + 1, by omega⟩, by show L.length - (i + 1) < L.length - i; omega, th [(1, some 2)] 2, rfl, rfl, rfl, rfl, rfl, rfl, ?_, ?_⟩
    · (repeat' first | exact trivial | exact rfl | refine And.intro ?_ ?_)
      · exact (wrap_nat i (by omega)).symm
    · (repeat' first | exact trivial | exact rfl | refine And.intro ?_ ?_)
theorem mx_ge {l : Rows} {y : Int} : ∀ k, y ≤ mx l y k ∧ ∀ i, i < k → fy l i ≤ mx l y k
  | 0 => ⟨Int.le_refl _, fun i hi => by omega⟩
  | k + 1 => by
    have ih := mx_ge (l := l) (y := y) k
    show y ≤ max (mx l y k) (fy l k) ∧ ∀ i, i < k + 1 → fy l i ≤ max (mx l y k) (fy l k)
    refine ⟨by omega, fun i hi => ?_⟩
    by_cases c : i = k
    · subst c; omega
    · have := ih.2 i (by omega); omega
theorem cand_ge {l : Rows} {f v : Int} (h : Cand l f v) : f ≤ v := by
  rcases h with rfl | ⟨i, _, _, h⟩ <;> omega
theorem lo_ge {l : Rows} {a h : Int} : ∀ k i, i < k → hs l a h i = true → sd l i = 1 → fx l i + fw l i ≤ Lo l a h k
  | 0, i, hi, _, _ => by omega
  | k + 1, i, hi, h1, h2 => by
    show fx l i + fw l i ≤ (if hs l a h k = true ∧ sd l k = 1 then max (Lo l a h k) (fx l k + fw l k) else Lo l a h k)
    by_cases c : i = k
    · subst c; rw [if_pos ⟨h1, h2⟩]; omega
    · have := lo_ge (l := l) (a := a) (h := h) k i (by omega) h1 h2
      split <;> omega
theorem hi_le {l : Rows} {W a h : Int} : ∀ k i, i < k → hs l a h i = true → sd l i ≠ 1 → Hi l W a h k ≤ fx l i
  | 0, i, hi, _, _ => by omega
  | k + 1, i, hi, h1, h2 => by
    show (if hs l a h k = true ∧ sd l k ≠ 1 then min (Hi l W a h k) (fx l k) else Hi l W a h k) ≤ fx l i
    by_cases c : i = k
    · subst c; rw [if_pos ⟨h1, h2⟩]; omega
    · have := hi_le (l := l) (W := W) (a := a) (h := h) k i (by omega) h1 h2
      split <;> omega
section
variable {L : Rows} {W : Int} {m : Bool} (hL : Pb L) (hW : 0 ≤ W ∧ W ≤ 65535) (h20 : L.length ≤ 20)
include hL hW h20
theorem pls_pre {i : Nat} : ∀ j, i ≤ j → j ≤ L.length → ∀ k, k < i → (pls L W m j).getD k [] = (pls L W m i).getD k []
  | 0, h, _, k, hk => by omega
  | j + 1, h, hj, k, hk => by
    by_cases c : i = j + 1
    · subst c; rfl
    · have g := Gd.all m hL hW h20 j (by omega)
      rw [g.suc hL hW (by omega) h20, app_get (by rw [g.len]; omega)]
      exact pls_pre j (by omega) (by omega) k hk
/-- a float that was placed, among all -/
theorem pls_row {i : Nat} (hi : i < L.length) : sd (pls L W m L.length) i = sdm L m i ∧ fx (pls L W m L.length) i = px (pls L W m i) W (sdm L m i) (hgt L W m i) (wdt L W i) (qh L i) ∧ fy (pls L W m L.length) i = hgt L W m i ∧ fw (pls L W m L.length) i = wdt L W i ∧ fh (pls L W m L.length) i = qh L i := by
  have g := Gd.all m hL hW h20 i (by omega)
  have e := pls_pre hL hW h20 (m := m) (i := i + 1) L.length (by omega) (Nat.le_refl _) i (by omega)
  have e2 : pls L W m (i + 1) = pls L W m i ++ [prow (pls L W m i) W (sdm L m i) (hgt L W m i) (wdt L W i) (qh L i)] := g.suc hL hW hi h20
  have q := prow_get (pls L W m i) W (sdm L m i) (hgt L W m i) (wdt L W i) (qh L i)
  rw [← e2, g.len] at q
  unfold sd fx fy fw fh at q ⊢
  rw [e]
  exact q
theorem pls_old {i k : Nat} (hi : i ≤ L.length) (hk : k < i) : sd (pls L W m L.length) k = sd (pls L W m i) k ∧ fx (pls L W m L.length) k = fx (pls L W m i) k ∧ fy (pls L W m L.length) k = fy (pls L W m i) k ∧ fw (pls L W m L.length) k = fw (pls L W m i) k ∧ fh (pls L W m L.length) k = fh (pls L W m i) k := by
  unfold sd fx fy fw fh
  rw [pls_pre hL hW h20 (m := m) (i := i) L.length hi (Nat.le_refl _) k hk]
  exact ⟨rfl, rfl, rfl, rfl, rfl⟩
theorem ap_y {i : Nat} (hi : i < L.length) : qy L i ≤ fy (pls L W m L.length) i := by
  rw [(pls_row hL hW h20 hi).2.2.1]
  have h1 := cand_ge (pa_spec (pls L W m i) W (qy L i) (wdt L W i) (qh L i)).1.1
  have h2 := (mx_ge (l := pls L W m i) (y := qy L i) (pls L W m i).length).1
  unfold hgt; omega
theorem ap_up {i k : Nat} (hi : i < L.length) (hk : k < i) : fy (pls L W m L.length) k ≤ fy (pls L W m L.length) i := by
  rw [(pls_row hL hW h20 hi).2.2.1, (pls_old hL hW h20 (i := i) (by omega) hk).2.2.1]
  have h1 := cand_ge (pa_spec (pls L W m i) W (qy L i) (wdt L W i) (qh L i)).1.1
  have h2 := (mx_ge (l := pls L W m i) (y := qy L i) (pls L W m i).length).2 k (by rw [(Gd.all m hL hW h20 i (by omega)).len]; exact hk)
  unfold hgt; omega
theorem ap_no {i k : Nat} (hi : i < L.length) (hk : k < i)
    (h1 : max (fx (pls L W m L.length) i) (fx (pls L W m L.length) k) < min (fx (pls L W m L.length) i + fw (pls L W m L.length) i) (fx (pls L W m L.length) k + fw (pls L W m L.length) k))
    (h2 : max (fy (pls L W m L.length) i) (fy (pls L W m L.length) k) < min (fy (pls L W m L.length) i + fh (pls L W m L.length) i) (fy (pls L W m L.length) k + fh (pls L W m L.length) k)) : False := by
  obtain ⟨r1, r2, r3, r4, r5⟩ := pls_row hL hW h20 (m := m) hi
  obtain ⟨o1, o2, o3, o4, o5⟩ := pls_old hL hW h20 (m := m) (i := i) (by omega) hk
  have g := Gd.all m hL hW h20 i (by omega)
  have hp := px_in (s := sdm L m i) (g.vd (by omega) hW) (wdt_bd hL hW hi) (pa_spec (pls L W m i) W (qy L i) (wdt L W i) (qh L i)).1.2 (fun k hk => g.inw k (by rw [g.len] at hk; exact hk))
  have hp : 0 ≤ px (pls L W m i) W (sdm L m i) (hgt L W m i) (wdt L W i) (qh L i) ∧ px (pls L W m i) W (sdm L m i) (hgt L W m i) (wdt L W i) (qh L i) + wdt L W i ≤ W ∧ Lo (pls L W m i) (hgt L W m i) (qh L i) (pls L W m i).length ≤ px (pls L W m i) W (sdm L m i) (hgt L W m i) (wdt L W i) (qh L i) ∧ (1 ≤ wdt L W i → px (pls L W m i) W (sdm L m i) (hgt L W m i) (wdt L W i) (qh L i) + wdt L W i ≤ Hi (pls L W m i) W (hgt L W m i) (qh L i) (pls L W m i).length) := hp
  rw [r2, r4, o2, o4] at h1
  rw [r3, r5, o3, o5] at h2
  obtain ⟨_, _, _, b4⟩ := hL i hi
  have hb : hs (pls L W m i) (hgt L W m i) (qh L i) k = true := decide_eq_true (by omega)
  have f4 := (g.fl k hk).2.2.2.1
  by_cases c : sd (pls L W m i) k = 1
  · have := lo_ge (pls L W m i).length k (by rw [g.len]; exact hk) hb c
    omega
  · have := hi_le (W := W) (pls L W m i).length k (by rw [g.len]; exact hk) hb c
    omega
end
end Go.Proofs.Ytfkpnondknfmeaa.floatsApart
