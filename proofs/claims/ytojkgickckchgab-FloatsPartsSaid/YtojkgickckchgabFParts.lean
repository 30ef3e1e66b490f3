/-
  FloatsParts: whatever the arguments, the law returns true, and its arguments read as before. No conditions.
-/
import Derived.Test.YtojkgickckchgabRows
import Derived.Test.YtojkgickckchgabVwOpen2
import Derived.Test.YtojkgickckchgabVwRules6
import Derived.Test.YtojkgickckchgabVmSym
import Derived.WalkKit
import Derived.ProofKit
import Derived.OpenShut
import Derived.Carry
namespace Go.Proofs.Ytojkgickckchgab.floatsParts
open Go.ChangeShapes Go.WideShapes Go.ChangeAt Go.RowKit
open Go.Vm (Facts Val Sound)
open Go.Vm2
set_option linter.unusedVariables false
set_option linter.unusedSectionVars false

theorem own : ownKnob Try.prog.godebug = none := by kernel_rfl
theorem laidOut : laidOutB Try.prog = true := by kernel_rfl
def ts : List Nat := [22, 41, 25, 4, 26, 3, 36, 43, 37, 5, 50, 51, 65, 58, 69, 75, 78, 88, 67, 151, 96, 98, 104, 106, 109]
def tt : Go.Vm2.TT := [
  (22, ⟨(.slice 41 5 40 [.int .i64, .int .i64, .int .i64, .int .i64, .int .i64]), false, 1, .nils, true⟩),
  (41, ⟨(.struct [⟨0, 1, false⟩, ⟨1, 1, false⟩, ⟨2, 1, false⟩, ⟨3, 1, false⟩, ⟨4, 1, false⟩]), true, 5, .agg [.int .i64 (0), .int .i64 (0), .int .i64 (0), .int .i64 (0), .int .i64 (0)], true⟩),
  (25, ⟨(.struct [⟨0, 1, false⟩, ⟨1, 1, false⟩]), true, 2, .agg [.int .i64 (0), .int .i64 (0)], true⟩),
  (4, ⟨.bool, false, 1, .bool false, true⟩),
  (26, ⟨(.int .i64), false, 1, .int .i64 (0), true⟩),
  (3, ⟨(.int .i64), false, 1, .int .i64 (0), true⟩),
  (36, ⟨(.slice 43 4 8 [.int .u8, .int .u16, .int .u16, .int .u16]), false, 1, .nils, true⟩),
  (43, ⟨(.struct [⟨0, 1, false⟩, ⟨1, 1, false⟩, ⟨2, 1, false⟩, ⟨3, 1, false⟩]), true, 4, .agg [.int .u8 (0), .int .u16 (0), .int .u16 (0), .int .u16 (0)], true⟩),
  (37, ⟨(.int .u16), false, 1, .int .u16 (0), true⟩),
  (5, ⟨(.int .u8), false, 1, .int .u8 (0), true⟩),
  (50, ⟨(.slice 3 1 8 [.int .i64]), false, 1, .nils, true⟩),
  (51, ⟨(.slice 65 2 16 [.int .i64, .int .i64]), false, 1, .nils, true⟩),
  (65, ⟨(.array 2 3 1), true, 2, .agg [.int .i64 (0), .int .i64 (0)], true⟩),
  (58, ⟨(.slice 69 7 72 [.int .i64, .int .i64, .int .i64, .int .i64, .int .i64, .bool, .nils]), false, 1, .nils, true⟩),
  (69, ⟨(.struct [⟨0, 1, false⟩, ⟨1, 1, false⟩, ⟨2, 1, false⟩, ⟨3, 1, false⟩, ⟨4, 1, false⟩, ⟨5, 1, false⟩, ⟨6, 1, false⟩]), true, 7, .agg [.int .i64 (0), .int .i64 (0), .int .i64 (0), .int .i64 (0), .int .i64 (0), .bool false, .nils], false⟩),
  (75, ⟨(.struct [⟨0, 1, false⟩, ⟨1, 1, false⟩]), true, 2, .agg [.int .i64 (0), .int .i64 (0)], true⟩),
  (78, ⟨(.struct [⟨0, 5, true⟩]), true, 5, .agg [.int .i64 (0), .int .i64 (0), .int .i64 (0), .int .i64 (0), .int .i64 (0)], false⟩),
  (88, ⟨(.map .i64 3), false, 1, .nilm, true⟩),
  (67, ⟨(.slice 151 5 48 [.str, .int .i64, .int .i64, .int .i64, .int .i64]), false, 1, .nils, true⟩),
  (151, ⟨(.struct [⟨0, 1, false⟩, ⟨1, 1, false⟩, ⟨2, 1, false⟩, ⟨3, 1, false⟩, ⟨4, 1, false⟩]), true, 5, .agg [.str [], .int .i64 (0), .int .i64 (0), .int .i64 (0), .int .i64 (0)], true⟩),
  (96, ⟨(.slice 98 3 24 [.int .i64, .int .i64, .int .i64]), false, 1, .nils, true⟩),
  (98, ⟨(.struct [⟨0, 1, false⟩, ⟨1, 1, false⟩, ⟨2, 1, false⟩]), true, 3, .agg [.int .i64 (0), .int .i64 (0), .int .i64 (0)], true⟩),
  (104, ⟨(.int .u64), false, 1, .int .u64 (0), true⟩),
  (106, ⟨(.map .i64 4), false, 1, .nilm, true⟩),
  (109, ⟨(.slice 4 1 1 [.bool]), false, 1, .nils, true⟩)]
theorem tt_mk : mkTT Try.prog ts = some tt := by kernel_rfl
theorem head (w : World) : Calls Try.prog 15 #[] w fun e w' => e = .returned (.bool true) ∧ Below w.heap.size w w' :=
  Go.Vm.head_run (by kernel_rfl) (by kernel_rfl) (n := 1000000) (by kernel_rfl) w
instance facts : Facts := ⟨[], [15], false⟩
instance val : Val := ⟨fun _ => 0⟩
instance sound : Sound := ⟨fun f hf => (List.not_mem_nil hf).elim⟩
theorem tt_ok : TTok Try.prog tt := ttok_mk tt_mk
def body (f : Func) : Code := match f.body with | some c => c | none => .skip
set_option maxRecDepth 100000
theorem wrap_nat (k : Nat) (h : k < 9223372036854775807) : IntKind.i64.wrap ((k : Int) + 1) = ((k + 1 : Nat) : Int) := by
  rw [IntKind.wrap_i64]; omega
theorem wrapS (n : Int) (h : -9000000000000000000 ≤ n ∧ n ≤ 9000000000000000000) : IntKind.i64.wrap n = n := by rw [IntKind.wrap_i64]; omega
abbrev Rows := List (List D)
theorem len_test (n : Int) (h : H) (K : V → H → Prop) (hK : K (.test (decide (0 ≤ n ∧ n ≤ 1000000))) h) : SemF Try.prog 41 [.int .i64 n] h K := by
  refine SemF.test ?_
  refine enter tt_ok Try.func41 (nt := 9) (cd := body Try.f41) rfl rfl rfl rfl ?_
  intro _; refine ⟨fun g => ?_, fun g => ?_⟩
  · have g := of_decide_eq_true (show decide (n ≥ 0) = true from g)
    intro _
    refine ⟨_, .inr rfl, ?_⟩
    have : decide (0 ≤ n ∧ n ≤ 1000000) = decide (n ≤ 1000000) := by
      by_cases e : n ≤ 1000000
      · rw [decide_eq_true e, decide_eq_true (show 0 ≤ n ∧ n ≤ 1000000 from ⟨by omega, e⟩)]
      · rw [decide_eq_false e, decide_eq_false (fun m => e m.2)]
    rw [← this]; exact hK
  · have g := of_decide_eq_false (show decide (n ≥ 0) = false from g)
    intro _
    refine ⟨false, .inl rfl, ?_⟩
    have : decide (0 ≤ n ∧ n ≤ 1000000) = false := decide_eq_false (fun m => by have := m.1; omega)
    rw [← this]; exact hK
theorem high_test (n : Int) (h : H) (K : V → H → Prop) (hK : K (.test (decide (0 ≤ n ∧ n ≤ 1000000000))) h) : SemF Try.prog 40 [.int .i64 n] h K := by
  refine SemF.test ?_
  refine enter tt_ok Try.func40 (nt := 9) (cd := body Try.f40) rfl rfl rfl rfl ?_
  intro _; refine ⟨fun g => ?_, fun g => ?_⟩
  · have g := of_decide_eq_true (show decide (n ≥ 0) = true from g)
    intro _
    refine ⟨_, .inr rfl, ?_⟩
    have : decide (0 ≤ n ∧ n ≤ 1000000000) = decide (n ≤ 1000000000) := by
      by_cases e : n ≤ 1000000000
      · rw [decide_eq_true e, decide_eq_true (show 0 ≤ n ∧ n ≤ 1000000000 from ⟨by omega, e⟩)]
      · rw [decide_eq_false e, decide_eq_false (fun m => e m.2)]
    rw [← this]; exact hK
  · have g := of_decide_eq_false (show decide (n ≥ 0) = false from g)
    intro _
    refine ⟨false, .inl rfl, ?_⟩
    have : decide (0 ≤ n ∧ n ≤ 1000000000) = false := decide_eq_false (fun m => by have := m.1; omega)
    rw [← this]; exact hK
theorem rlen_test (n : Int) (h : H) (K : V → H → Prop) (hK : K (.test (decide (0 ≤ n ∧ n ≤ 1000000))) h) : SemF Try.prog 44 [.int .i64 n] h K := by
  refine SemF.test ?_
  refine enter tt_ok Try.func44 (nt := 9) (cd := body Try.f44) rfl rfl rfl rfl ?_
  intro _; refine ⟨fun g => ?_, fun g => ?_⟩
  · have g := of_decide_eq_true (show decide (n ≥ 0) = true from g)
    intro _
    refine ⟨_, .inr rfl, ?_⟩
    have : decide (0 ≤ n ∧ n ≤ 1000000) = decide (n ≤ 1000000) := by
      by_cases e : n ≤ 1000000
      · rw [decide_eq_true e, decide_eq_true (show 0 ≤ n ∧ n ≤ 1000000 from ⟨by omega, e⟩)]
      · rw [decide_eq_false e, decide_eq_false (fun m => e m.2)]
    rw [← this]; exact hK
  · have g := of_decide_eq_false (show decide (n ≥ 0) = false from g)
    intro _
    refine ⟨false, .inl rfl, ?_⟩
    have : decide (0 ≤ n ∧ n ≤ 1000000) = false := decide_eq_false (fun m => by have := m.1; omega)
    rw [← this]; exact hK
theorem rhigh_test (n : Int) (h : H) (K : V → H → Prop) (hK : K (.test (decide (0 ≤ n ∧ n ≤ 1000000000))) h) : SemF Try.prog 43 [.int .i64 n] h K := by
  refine SemF.test ?_
  refine enter tt_ok Try.func43 (nt := 9) (cd := body Try.f43) rfl rfl rfl rfl ?_
  intro _; refine ⟨fun g => ?_, fun g => ?_⟩
  · have g := of_decide_eq_true (show decide (n ≥ 0) = true from g)
    intro _
    refine ⟨_, .inr rfl, ?_⟩
    have : decide (0 ≤ n ∧ n ≤ 1000000000) = decide (n ≤ 1000000000) := by
      by_cases e : n ≤ 1000000000
      · rw [decide_eq_true e, decide_eq_true (show 0 ≤ n ∧ n ≤ 1000000000 from ⟨by omega, e⟩)]
      · rw [decide_eq_false e, decide_eq_false (fun m => e m.2)]
    rw [← this]; exact hK
  · have g := of_decide_eq_false (show decide (n ≥ 0) = false from g)
    intro _
    refine ⟨false, .inl rfl, ?_⟩
    have : decide (0 ≤ n ∧ n ≤ 1000000000) = false := decide_eq_false (fun m => by have := m.1; omega)
    rw [← this]; exact hK
def sd (l : Rows) (i : Nat) : Int := ((l.getD i []).getD 0 (D.n 0)).int
def fx (l : Rows) (i : Nat) : Int := ((l.getD i []).getD 1 (D.n 0)).int
def fy (l : Rows) (i : Nat) : Int := ((l.getD i []).getD 2 (D.n 0)).int
def fw (l : Rows) (i : Nat) : Int := ((l.getD i []).getD 3 (D.n 0)).int
def fh (l : Rows) (i : Nat) : Int := ((l.getD i []).getD 4 (D.n 0)).int
abbrev K5 : List CK := [.int .i64, .int .i64, .int .i64, .int .i64, .int .i64]
def Fl (l : Rows) (i : Nat) : Prop := (sd l i = 1 ∨ sd l i = 2) ∧ (0 ≤ fx l i ∧ fx l i ≤ 1000000) ∧ (0 ≤ fw l i ∧ fw l i ≤ 1000000) ∧ (0 ≤ fh l i ∧ fh l i ≤ 1000000) ∧ (0 ≤ fy l i ∧ fy l i ≤ 1000000000)
def Vd (l : Rows) (W : Int) : Prop := (l.length ≤ 200 ∧ 0 ≤ W ∧ W ≤ 1000000) ∧ ∀ i, i < l.length → Fl l i
instance decFl (l : Rows) (i : Nat) : Decidable (Fl l i) := inferInstanceAs (Decidable (_ ∧ _))
instance decVd (l : Rows) (W : Int) : Decidable (Vd l W) := inferInstanceAs (Decidable (_ ∧ _))
abbrev VIdx (l : Rows) := { k : Nat // k ≤ l.length ∧ ∀ i, i < k → Fl l i }
theorem vidx_succ {l : Rows} {k : Nat} (hm : ∀ i, i < k → Fl l i) (h : Fl l k) : ∀ i, i < k + 1 → Fl l i := fun i hi => by
  by_cases e : i = k
  · subst e; exact h
  · exact hm i (by omega)
theorem valid_ok (l : Rows) (W : Int) (hl : l.length ≤ 9223372036854775807) : SemF Try.prog 18 [.slc 0 5 0 l.length, .int .i64 W] ⟨1, 1, [(0, .arr [.int .i64, .int .i64, .int .i64, .int .i64, .int .i64] .rd (.recs l))]⟩ (fun v _ => v = .test (decide (Vd l W)) ∧ nameless v = true) := by
  refine SemF.test ?_
  refine enter tt_ok Try.func18 (nt := 54) (cd := body Try.f18) rfl rfl rfl rfl ?_
  intro _; refine ⟨fun g => ?_, fun g => ?_⟩
  · have g := of_decide_eq_true (show decide ((l.length : Int) > 200) = true from g)
    intro _
    exact ⟨false, .inl rfl, by rw [decide_eq_false (fun h : Vd l W => by have := h.1.1; omega)], rfl⟩
  have g1 := of_decide_eq_false (show decide ((l.length : Int) > 200) = false from g)
  intro _
  refine len_test _ _ _ ?_
  intro _; refine ⟨fun g => ?_, fun g => ?_⟩
  · have g : (!decide (0 ≤ W ∧ W ≤ 1000000)) = true := g
    rw [Bool.not_eq_true'] at g
    have g := of_decide_eq_false g
    intro _
    exact ⟨false, .inl rfl, by rw [decide_eq_false (fun h : Vd l W => g h.1.2)], rfl⟩
  have g : (!decide (0 ≤ W ∧ W ≤ 1000000)) = false := g
  rw [Bool.not_eq_false'] at g
  have hW := of_decide_eq_true g
  intro _
  refine loop2 tt_ok [17] [] 1 (fun k : VIdx l => [(17, .int .i64 (k : Nat))]) (fun _ => []) (fun k => l.length - k) ⟨0, by omega, fun i h => by omega⟩ ?_
  intro _
  refine ⟨⟨th [] 1, rfl, rfl, rfl, rfl, rfl, rfl, ?_, ?_⟩, ?_⟩
  · (repeat' first | exact trivial | exact rfl | refine And.intro ?_ ?_)
  · (repeat' first | exact trivial | exact rfl | refine And.intro ?_ ?_)
  intro ⟨k, hk, hmk⟩
  have z : 0 + k = k := Nat.zero_add k
  intro _; refine ⟨fun g => ?_, fun g => ?_⟩
  rotate_left
  · have hkl := of_decide_eq_false (show decide ((k : Int) < (l.length : Int)) = false from g)
    have hkl : k = l.length := by omega
    subst hkl
    intro _
    exact ⟨true, .inl rfl, by rw [decide_eq_true (show Vd l W from ⟨⟨by omega, hW⟩, hmk⟩)], rfl⟩
  have hkl := of_decide_eq_true (show decide ((k : Int) < (l.length : Int)) = true from g)
  have bad : ¬ Fl l k → decide (Vd l W) = false := fun h => decide_eq_false (fun hv => h (hv.2 k (by omega)))
  intro _; refine ⟨show 0 ≤ (k : Int) ∧ (k : Int) < (l.length : Int) by omega, ?_⟩
  intro _; refine ⟨show 0 + (k : Int).toNat < l.length by omega, ?_⟩
  intro _; refine ⟨fun g => ?_, fun g => ?_⟩
  · have g : (sd l (0 + k) != 1) = true := g
    rw [z] at g
    have s1 : sd l k ≠ 1 := by simpa using g
    intro _; refine ⟨fun g => ?_, fun g => ?_⟩
    · have g : (sd l (0 + k) != 2) = true := g
      rw [z] at g
      have s2 : sd l k ≠ 2 := by simpa using g
      intro _
      exact ⟨false, .inl rfl, by rw [bad (fun h => h.1.elim s1 s2)], rfl⟩
    have g : (sd l (0 + k) != 2) = false := g
    rw [z] at g
    have s2 : sd l k = 2 := by simpa using g
    intro _
    refine len_test _ _ _ ?_
    intro _; refine ⟨fun g => ?_, fun g => ?_⟩
    · have g : (!decide (0 ≤ fx l (0 + k) ∧ fx l (0 + k) ≤ 1000000)) = true := g
      rw [z, Bool.not_eq_true'] at g
      have g := of_decide_eq_false g
      intro _
      exact ⟨false, .inl rfl, by rw [bad (fun h => g h.2.1)], rfl⟩
    have g : (!decide (0 ≤ fx l (0 + k) ∧ fx l (0 + k) ≤ 1000000)) = false := g
    rw [z, Bool.not_eq_false'] at g
    have c0 := of_decide_eq_true g
    intro _
    refine len_test _ _ _ ?_
    intro _; refine ⟨fun g => ?_, fun g => ?_⟩
    · have g : (!decide (0 ≤ fw l (0 + k) ∧ fw l (0 + k) ≤ 1000000)) = true := g
      rw [z, Bool.not_eq_true'] at g
      have g := of_decide_eq_false g
      intro _
      exact ⟨false, .inl rfl, by rw [bad (fun h => g h.2.2.1)], rfl⟩
    have g : (!decide (0 ≤ fw l (0 + k) ∧ fw l (0 + k) ≤ 1000000)) = false := g
    rw [z, Bool.not_eq_false'] at g
    have c1 := of_decide_eq_true g
    intro _
    refine len_test _ _ _ ?_
    intro _; refine ⟨fun g => ?_, fun g => ?_⟩
    · have g : (!decide (0 ≤ fh l (0 + k) ∧ fh l (0 + k) ≤ 1000000)) = true := g
      rw [z, Bool.not_eq_true'] at g
      have g := of_decide_eq_false g
      intro _
      exact ⟨false, .inl rfl, by rw [bad (fun h => g h.2.2.2.1)], rfl⟩
    have g : (!decide (0 ≤ fh l (0 + k) ∧ fh l (0 + k) ≤ 1000000)) = false := g
    rw [z, Bool.not_eq_false'] at g
    have c2 := of_decide_eq_true g
    intro _
    refine high_test _ _ _ ?_
    intro _; refine ⟨fun g => ?_, fun g => ?_⟩
    · have g : (!decide (0 ≤ fy l (0 + k) ∧ fy l (0 + k) ≤ 1000000000)) = true := g
      rw [z, Bool.not_eq_true'] at g
      have g := of_decide_eq_false g
      intro _
      exact ⟨false, .inl rfl, by rw [bad (fun h => g h.2.2.2.2)], rfl⟩
    have g : (!decide (0 ≤ fy l (0 + k) ∧ fy l (0 + k) ≤ 1000000000)) = false := g
    rw [z, Bool.not_eq_false'] at g
    have c3 := of_decide_eq_true g
    refine ⟨⟨k + 1, by omega, vidx_succ hmk ⟨.inr s2, c0, c1, c2, c3⟩⟩, by simp; omega, th [] 1, rfl, rfl, rfl, rfl, rfl, rfl, ?_, ?_⟩
    · (repeat' first | exact trivial | exact rfl | refine And.intro ?_ ?_)
      exact (wrap_nat k (by omega)).symm
    · (repeat' first | exact trivial | exact rfl | refine And.intro ?_ ?_)
  · have g : (sd l (0 + k) != 1) = false := g
    rw [z] at g
    have s1 : sd l k = 1 := by simpa using g
    intro _
    refine len_test _ _ _ ?_
    intro _; refine ⟨fun g => ?_, fun g => ?_⟩
    · have g : (!decide (0 ≤ fx l (0 + k) ∧ fx l (0 + k) ≤ 1000000)) = true := g
      rw [z, Bool.not_eq_true'] at g
      have g := of_decide_eq_false g
      intro _
      exact ⟨false, .inl rfl, by rw [bad (fun h => g h.2.1)], rfl⟩
    have g : (!decide (0 ≤ fx l (0 + k) ∧ fx l (0 + k) ≤ 1000000)) = false := g
    rw [z, Bool.not_eq_false'] at g
    have c0 := of_decide_eq_true g
    intro _
    refine len_test _ _ _ ?_
    intro _; refine ⟨fun g => ?_, fun g => ?_⟩
    · have g : (!decide (0 ≤ fw l (0 + k) ∧ fw l (0 + k) ≤ 1000000)) = true := g
      rw [z, Bool.not_eq_true'] at g
      have g := of_decide_eq_false g
      intro _
      exact ⟨false, .inl rfl, by rw [bad (fun h => g h.2.2.1)], rfl⟩
    have g : (!decide (0 ≤ fw l (0 + k) ∧ fw l (0 + k) ≤ 1000000)) = false := g
    rw [z, Bool.not_eq_false'] at g
    have c1 := of_decide_eq_true g
    intro _
    refine len_test _ _ _ ?_
    intro _; refine ⟨fun g => ?_, fun g => ?_⟩
    · have g : (!decide (0 ≤ fh l (0 + k) ∧ fh l (0 + k) ≤ 1000000)) = true := g
      rw [z, Bool.not_eq_true'] at g
      have g := of_decide_eq_false g
      intro _
      exact ⟨false, .inl rfl, by rw [bad (fun h => g h.2.2.2.1)], rfl⟩
    have g : (!decide (0 ≤ fh l (0 + k) ∧ fh l (0 + k) ≤ 1000000)) = false := g
    rw [z, Bool.not_eq_false'] at g
    have c2 := of_decide_eq_true g
    intro _
    refine high_test _ _ _ ?_
    intro _; refine ⟨fun g => ?_, fun g => ?_⟩
    · have g : (!decide (0 ≤ fy l (0 + k) ∧ fy l (0 + k) ≤ 1000000000)) = true := g
      rw [z, Bool.not_eq_true'] at g
      have g := of_decide_eq_false g
      intro _
      exact ⟨false, .inl rfl, by rw [bad (fun h => g h.2.2.2.2)], rfl⟩
    have g : (!decide (0 ≤ fy l (0 + k) ∧ fy l (0 + k) ≤ 1000000000)) = false := g
    rw [z, Bool.not_eq_false'] at g
    have c3 := of_decide_eq_true g
    refine ⟨⟨k + 1, by omega, vidx_succ hmk ⟨.inl s1, c0, c1, c2, c3⟩⟩, by simp; omega, th [] 1, rfl, rfl, rfl, rfl, rfl, rfl, ?_, ?_⟩
    · (repeat' first | exact trivial | exact rfl | refine And.intro ?_ ?_)
      exact (wrap_nat k (by omega)).symm
    · (repeat' first | exact trivial | exact rfl | refine And.intro ?_ ?_)
theorem rvalid_ok (l : Rows) (W : Int) (hl : l.length ≤ 9223372036854775807) : SemF Try.prog 19 [.slc 0 5 0 l.length, .int .i64 W] ⟨1, 1, [(0, .arr [.int .i64, .int .i64, .int .i64, .int .i64, .int .i64] .rd (.recs l))]⟩ (fun v _ => v = .test (decide (Vd l W)) ∧ nameless v = true) := by
  refine SemF.test ?_
  refine enter tt_ok Try.func19 (nt := 80) (cd := body Try.f19) rfl rfl rfl rfl ?_
  intro _
  refine rlen_test _ _ _ ?_
  intro _; refine ⟨fun g => ?_, fun g => ?_⟩
  · have g : (!decide (0 ≤ W ∧ W ≤ 1000000)) = true := g
    rw [Bool.not_eq_true'] at g
    have g := of_decide_eq_false g
    intro _
    exact ⟨false, .inl rfl, by rw [decide_eq_false (fun h : Vd l W => g h.1.2)], rfl⟩
  have g : (!decide (0 ≤ W ∧ W ≤ 1000000)) = false := g
  rw [Bool.not_eq_false'] at g
  have hW := of_decide_eq_true g
  intro _; refine ⟨fun g => ?_, fun g => ?_⟩
  · have g := of_decide_eq_true (show decide ((l.length : Int) > 200) = true from g)
    intro _
    exact ⟨false, .inl rfl, by rw [decide_eq_false (fun h : Vd l W => by have := h.1.1; omega)], rfl⟩
  have g1 := of_decide_eq_false (show decide ((l.length : Int) > 200) = false from g)
  intro _
  refine loop2 tt_ok [6] [] 1 (fun k : VIdx l => [(6, .int .i64 (k : Nat))]) (fun _ => []) (fun k => l.length - k) ⟨0, by omega, fun i h => by omega⟩ ?_
  intro _
  refine ⟨⟨th [] 1, rfl, rfl, rfl, rfl, rfl, rfl, ?_, ?_⟩, ?_⟩
  · (repeat' first | exact trivial | exact rfl | refine And.intro ?_ ?_)
  · (repeat' first | exact trivial | exact rfl | refine And.intro ?_ ?_)
  intro ⟨k, hk, hmk⟩
  have z : 0 + k = k := Nat.zero_add k
  intro _; refine ⟨fun g => ?_, fun g => ?_⟩
  rotate_left
  · have hkl := of_decide_eq_false (show decide ((k : Int) < (l.length : Int)) = false from g)
    have hkl : k = l.length := by omega
    subst hkl
    intro _
    exact ⟨true, .inl rfl, by rw [decide_eq_true (show Vd l W from ⟨⟨by omega, hW⟩, hmk⟩)], rfl⟩
  have hkl := of_decide_eq_true (show decide ((k : Int) < (l.length : Int)) = true from g)
  have bad : ¬ Fl l k → decide (Vd l W) = false := fun h => decide_eq_false (fun hv => h (hv.2 k (by omega)))
  have i1 : 0 ≤ (k : Int) ∧ (k : Int) < (l.length : Int) := by omega
  have i2 : 0 + (k : Int).toNat < l.length := by omega
  intro _; refine ⟨i1, ?_⟩
  intro _; refine ⟨i2, ?_⟩
  intro _
  refine rlen_test _ _ _ ?_
  intro _; refine ⟨i1, ?_⟩
  intro _; refine ⟨i2, ?_⟩
  intro _
  refine rhigh_test _ _ _ ?_
  intro _; refine ⟨i1, ?_⟩
  intro _; refine ⟨i2, ?_⟩
  intro _
  refine rlen_test _ _ _ ?_
  intro _; refine ⟨i1, ?_⟩
  intro _; refine ⟨i2, ?_⟩
  intro _
  refine rlen_test _ _ _ ?_
  intro _; refine ⟨fun g => ?_, fun g => ?_⟩
  · have g : (!decide (0 ≤ fx l (0 + k) ∧ fx l (0 + k) ≤ 1000000)) = true := g
    rw [z, Bool.not_eq_true'] at g
    have g := of_decide_eq_false g
    intro _
    exact ⟨false, .inl rfl, by rw [bad (fun h => g h.2.1)], rfl⟩
  have g : (!decide (0 ≤ fx l (0 + k) ∧ fx l (0 + k) ≤ 1000000)) = false := g
  rw [z, Bool.not_eq_false'] at g
  have c0 := of_decide_eq_true g
  intro _; refine ⟨fun g => ?_, fun g => ?_⟩
  · have g : (!decide (0 ≤ fy l (0 + k) ∧ fy l (0 + k) ≤ 1000000000)) = true := g
    rw [z, Bool.not_eq_true'] at g
    have g := of_decide_eq_false g
    intro _
    exact ⟨false, .inl rfl, by rw [bad (fun h => g h.2.2.2.2)], rfl⟩
  have g : (!decide (0 ≤ fy l (0 + k) ∧ fy l (0 + k) ≤ 1000000000)) = false := g
  rw [z, Bool.not_eq_false'] at g
  have c1 := of_decide_eq_true g
  intro _; refine ⟨fun g => ?_, fun g => ?_⟩
  · have g : (!decide (0 ≤ fw l (0 + k) ∧ fw l (0 + k) ≤ 1000000)) = true := g
    rw [z, Bool.not_eq_true'] at g
    have g := of_decide_eq_false g
    intro _
    exact ⟨false, .inl rfl, by rw [bad (fun h => g h.2.2.1)], rfl⟩
  have g : (!decide (0 ≤ fw l (0 + k) ∧ fw l (0 + k) ≤ 1000000)) = false := g
  rw [z, Bool.not_eq_false'] at g
  have c2 := of_decide_eq_true g
  intro _; refine ⟨fun g => ?_, fun g => ?_⟩
  · have g : (!decide (0 ≤ fh l (0 + k) ∧ fh l (0 + k) ≤ 1000000)) = true := g
    rw [z, Bool.not_eq_true'] at g
    have g := of_decide_eq_false g
    intro _
    exact ⟨false, .inl rfl, by rw [bad (fun h => g h.2.2.2.1)], rfl⟩
  have g : (!decide (0 ≤ fh l (0 + k) ∧ fh l (0 + k) ≤ 1000000)) = false := g
  rw [z, Bool.not_eq_false'] at g
  have c3 := of_decide_eq_true g
  intro _; refine ⟨i1, ?_⟩
  intro _; refine ⟨i2, ?_⟩
  intro _; refine ⟨fun g => ?_, fun g => ?_⟩
  · have g : decide (sd l (0 + k) < 1) = true := g
    rw [z] at g
    have g := of_decide_eq_true g
    intro _
    exact ⟨false, .inl rfl, by rw [bad (fun h => by have := h.1; omega)], rfl⟩
  have g : decide (sd l (0 + k) < 1) = false := g
  rw [z] at g
  have s1 := of_decide_eq_false g
  intro _; refine ⟨i1, ?_⟩
  intro _; refine ⟨i2, ?_⟩
  intro _; refine ⟨fun g => ?_, fun g => ?_⟩
  · have g : decide (sd l (0 + k) > 2) = true := g
    rw [z] at g
    have g := of_decide_eq_true g
    intro _
    exact ⟨false, .inl rfl, by rw [bad (fun h => by have := h.1; omega)], rfl⟩
  have g : decide (sd l (0 + k) > 2) = false := g
  rw [z] at g
  have s2 := of_decide_eq_false g
  refine ⟨⟨k + 1, by omega, vidx_succ hmk ⟨by omega, c0, c2, c3, c1⟩⟩, by simp; omega, th [] 1, rfl, rfl, rfl, rfl, rfl, rfl, ?_, ?_⟩
  · (repeat' first | exact trivial | exact rfl | refine And.intro ?_ ?_)
    exact (wrap_nat k (by omega)).symm
  · (repeat' first | exact trivial | exact rfl | refine And.intro ?_ ?_)
theorem bottom_ok (a b c d e : Int) : SemF Try.prog 46 [.agg [.int .i64 a, .int .i64 b, .int .i64 c, .int .i64 d, .int .i64 e]] ⟨0, 0, []⟩ (fun v _ => v = .int .i64 (IntKind.i64.wrap (c + e)) ∧ nameless v = true) := by
  refine enter tt_ok Try.func46 (nt := 10) (cd := body Try.f46) rfl rfl rfl rfl ?_
  intro _
  exact ⟨rfl, rfl⟩
theorem far_ok (a b c d e : Int) : SemF Try.prog 54 [.agg [.int .i64 a, .int .i64 b, .int .i64 c, .int .i64 d, .int .i64 e]] ⟨0, 0, []⟩ (fun v _ => v = .int .i64 (IntKind.i64.wrap (b + d)) ∧ nameless v = true) := by
  refine enter tt_ok Try.func54 (nt := 10) (cd := body Try.f54) rfl rfl rfl rfl ?_
  intro _
  exact ⟨rfl, rfl⟩
theorem has_ok (y h a b c d e : Int) : SemF Try.prog 53 [.agg [.int .i64 y, .int .i64 h], .agg [.int .i64 a, .int .i64 b, .int .i64 c, .int .i64 d, .int .i64 e]] ⟨0, 0, []⟩ (fun v _ => v = .test (decide (e > 0 ∧ c < IntKind.i64.wrap (y + max h 1) ∧ IntKind.i64.wrap (c + e) > y)) ∧ nameless v = true) := by
  refine SemF.test ?_
  refine enter tt_ok Try.func53 (nt := 27) (cd := body Try.f53) rfl rfl rfl rfl ?_
  intro _; refine ⟨fun g => ?_, fun g => ?_⟩
  rotate_left
  · have g := of_decide_eq_false (show decide (e > 0) = false from g)
    intro _; refine ⟨by kernel_rfl, ?_⟩
    intro _
    exact ⟨false, .inl rfl, by rw [decide_eq_false (fun h => g h.1)], rfl⟩
  have g1 := of_decide_eq_true (show decide (e > 0) = true from g)
  intro _; refine ⟨fun g => ?_, fun g => ?_⟩
  rotate_left
  · have g := of_decide_eq_false (show decide (c < IntKind.i64.wrap (y + max h 1)) = false from g)
    intro _; refine ⟨by kernel_rfl, ?_⟩
    intro _
    exact ⟨false, .inl rfl, by rw [decide_eq_false (fun h => g h.2.1)], rfl⟩
  have g2 := of_decide_eq_true (show decide (c < IntKind.i64.wrap (y + max h 1)) = true from g)
  intro _
  refine Or.inl ?_
  intro _
  refine call_pure [] (bottom_ok a b c d e) rfl rfl rfl ?_ ?_ ?_
  · (repeat' first | exact trivial | exact rfl | refine And.intro ?_ ?_)
  · (repeat' first | exact trivial | exact rfl | refine And.intro ?_ ?_)
  intro v hv _
  subst hv
  intro _; refine ⟨by kernel_rfl, ?_⟩
  intro _
  refine ⟨_, .inr rfl, ?_, rfl⟩
  by_cases e : IntKind.i64.wrap (c + e) > y
  · rw [decide_eq_true e, decide_eq_true ⟨g1, g2, e⟩]
  · rw [decide_eq_false e, decide_eq_false (fun h => e h.2.2)]
def hs (l : Rows) (y h : Int) (i : Nat) : Bool := decide (fh l i > 0 ∧ fy l i < y + max h 1 ∧ fy l i + fh l i > y)
def Lo (l : Rows) (y h : Int) : Nat → Int
  | 0 => 0
  | k + 1 => if hs l y h k = true ∧ sd l k = 1 then max (Lo l y h k) (fx l k + fw l k) else Lo l y h k
def Hi (l : Rows) (W y h : Int) : Nat → Int
  | 0 => W
  | k + 1 => if hs l y h k = true ∧ sd l k ≠ 1 then min (Hi l W y h k) (fx l k) else Hi l W y h k
def Fr (l : Rows) (y h : Int) : Nat → Bool
  | 0 => true
  | k + 1 => !hs l y h k && Fr l y h k
theorem room_ok (l : Rows) (W y h : Int) (hl : l.length ≤ 9223372036854775807) (hV : Vd l W) (hy : 0 ≤ y ∧ y ≤ 1000000000) (hh : 0 ≤ h ∧ h ≤ 1000000) : SemF Try.prog 42 [.slc 0 5 0 l.length, .int .i64 W, .agg [.int .i64 y, .int .i64 h]] ⟨1, 1, [(0, .arr [.int .i64, .int .i64, .int .i64, .int .i64, .int .i64] .rd (.recs l))]⟩ (fun v _ => v = .tup [.agg [.int .i64 (Lo l y h l.length), .int .i64 (max (Hi l W y h l.length) (Lo l y h l.length))], .bool (Fr l y h l.length)] ∧ nameless v = true) := by
  obtain ⟨⟨h200, hW⟩, hF⟩ := hV
  refine enter tt_ok Try.func42 (nt := 52) (cd := body Try.f42) rfl rfl rfl rfl ?_
  intro _
  refine loop2 tt_ok [19, 10] [3] 4 (fun k : { k : Nat // k ≤ l.length } => [(19, .int .i64 (k : Nat)), (10, .bool (Fr l y h k))]) (fun k => [(3, .cells [.int .i64 (Lo l y h k), .int .i64 (Hi l W y h k)])]) (fun k => l.length - k) ⟨0, by omega⟩ ?_
  intro _
  refine ⟨⟨th [] 4, rfl, rfl, rfl, rfl, rfl, rfl, ?_, ?_⟩, ?_⟩
  · (repeat' first | exact trivial | exact rfl | refine And.intro ?_ ?_)
  · (repeat' first | exact trivial | exact rfl | refine And.intro ?_ ?_)
  intro ⟨k, hk⟩
  have z : 0 + k = k := Nat.zero_add k
  intro _; refine ⟨fun g => ?_, fun g => ?_⟩
  rotate_left
  · have hkl := of_decide_eq_false (show decide ((k : Int) < (l.length : Int)) = false from g)
    have hkl : k = l.length := by omega
    subst hkl
    intro _
    exact ⟨rfl, rfl⟩
  have hkl := of_decide_eq_true (show decide ((k : Int) < (l.length : Int)) = true from g)
  intro _; refine ⟨show 0 ≤ (k : Int) ∧ (k : Int) < (l.length : Int) by omega, ?_⟩
  intro _; refine ⟨show 0 + (k : Int).toNat < l.length by omega, ?_⟩
  obtain ⟨f0, f1, f2, f3, f4⟩ := hF k (by omega)
  have eh : (decide (fh l (0 + k) > 0 ∧ fy l (0 + k) < IntKind.i64.wrap (y + max h 1) ∧ IntKind.i64.wrap (fy l (0 + k) + fh l (0 + k)) > y)) = hs l y h k := by
    rw [z, wrapS _ ⟨by omega, by omega⟩, wrapS _ ⟨by omega, by omega⟩]; rfl
  have ek := (wrap_nat k (by omega)).symm
  intro _
  refine call_pure [] (has_ok y h (sd l (0 + k)) (fx l (0 + k)) (fy l (0 + k)) (fw l (0 + k)) (fh l (0 + k))) rfl rfl rfl ?_ ?_ ?_
  · (repeat' first | exact trivial | exact rfl | refine And.intro ?_ ?_)
  · (repeat' first | exact trivial | exact rfl | refine And.intro ?_ ?_)
  intro v hv _
  subst hv
  intro _; refine ⟨fun g => ?_, fun g => ?_⟩
  · have g : (!(decide (fh l (0 + k) > 0 ∧ fy l (0 + k) < IntKind.i64.wrap (y + max h 1) ∧ IntKind.i64.wrap (fy l (0 + k) + fh l (0 + k)) > y))) = true := g
    rw [eh, Bool.not_eq_true'] at g
    refine ⟨⟨k + 1, by omega⟩, by simp; omega, th [] 4, rfl, rfl, rfl, rfl, rfl, rfl, ?_, ?_⟩
    · (repeat' first | exact trivial | exact rfl | refine And.intro ?_ ?_)
      · exact ek
      · show (!hs l y h k && Fr l y h k) = Fr l y h k
        rw [g]; rfl
    · (repeat' first | exact trivial | exact rfl | refine And.intro ?_ ?_)
      · show Lo l y h (k + 1) = Lo l y h k
        show (if hs l y h k = true ∧ sd l k = 1 then max (Lo l y h k) (fx l k + fw l k) else Lo l y h k) = _; rw [if_neg (by rw [g]; simp)]
      · show Hi l W y h (k + 1) = Hi l W y h k
        show (if hs l y h k = true ∧ sd l k ≠ 1 then min (Hi l W y h k) (fx l k) else Hi l W y h k) = _; rw [if_neg (by rw [g]; simp)]
  have g : (!(decide (fh l (0 + k) > 0 ∧ fy l (0 + k) < IntKind.i64.wrap (y + max h 1) ∧ IntKind.i64.wrap (fy l (0 + k) + fh l (0 + k)) > y))) = false := g
  rw [eh, Bool.not_eq_false'] at g
  have hh1 := g
  have eF : IntKind.i64.wrap (fx l (0 + k) + fw l (0 + k)) = fx l k + fw l k := by rw [z]; exact wrapS _ ⟨by omega, by omega⟩
  intro _; refine ⟨fun g => ?_, fun g => ?_⟩
  · have g : (sd l (0 + k) == 1) = true := g
    rw [z] at g
    have s1 : sd l k = 1 := by simpa using g
    intro _
    refine Or.inl ?_
    intro _
    refine call_pure [] (far_ok (sd l (0 + k)) (fx l (0 + k)) (fy l (0 + k)) (fw l (0 + k)) (fh l (0 + k))) rfl rfl rfl ?_ ?_ ?_
    · (repeat' first | exact trivial | exact rfl | refine And.intro ?_ ?_)
    · (repeat' first | exact trivial | exact rfl | refine And.intro ?_ ?_)
    intro v hv _
    subst hv
    intro _; refine ⟨by kernel_rfl, ?_⟩
    refine ⟨⟨k + 1, by omega⟩, by simp; omega, th [] 4, rfl, rfl, rfl, rfl, rfl, rfl, ?_, ?_⟩
    · (repeat' first | exact trivial | exact rfl | refine And.intro ?_ ?_)
      · exact ek
      · show (!hs l y h k && Fr l y h k) = false
        rw [hh1]; rfl
    · (repeat' first | exact trivial | exact rfl | refine And.intro ?_ ?_)
      · show (if hs l y h k = true ∧ sd l k = 1 then max (Lo l y h k) (fx l k + fw l k) else Lo l y h k) = max (Lo l y h k) (IntKind.i64.wrap (fx l (0 + k) + fw l (0 + k)))
        rw [if_pos ⟨hh1, s1⟩, eF]
      · show (if hs l y h k = true ∧ sd l k ≠ 1 then min (Hi l W y h k) (fx l k) else Hi l W y h k) = _; rw [if_neg (fun h => h.2 s1)]
  · have g : (sd l (0 + k) == 1) = false := g
    rw [z] at g
    have s1 : sd l k ≠ 1 := by simpa using g
    refine ⟨⟨k + 1, by omega⟩, by simp; omega, th [] 4, rfl, rfl, rfl, rfl, rfl, rfl, ?_, ?_⟩
    · (repeat' first | exact trivial | exact rfl | refine And.intro ?_ ?_)
      · exact ek
      · show (!hs l y h k && Fr l y h k) = false
        rw [hh1]; rfl
    · (repeat' first | exact trivial | exact rfl | refine And.intro ?_ ?_)
      · show (if hs l y h k = true ∧ sd l k = 1 then max (Lo l y h k) (fx l k + fw l k) else Lo l y h k) = _; rw [if_neg (fun h => s1 h.2)]
      · show (if hs l y h k = true ∧ sd l k ≠ 1 then min (Hi l W y h k) (fx l k) else Hi l W y h k) = min (Hi l W y h k) (fx l (0 + k)); rw [if_pos ⟨hh1, s1⟩, z]
def Rm (l : Rows) (W y h : Int) : Prop := Vd l W ∧ (0 ≤ y ∧ y ≤ 1000000000) ∧ (0 ≤ h ∧ h ≤ 1000000)
instance decRm (l : Rows) (W y h : Int) : Decidable (Rm l W y h) := inferInstanceAs (Decidable (_ ∧ _))
def RQ (l : Rows) (W y h : Int) : V := if Rm l W y h then .tup [.agg [.int .i64 (Lo l y h l.length), .int .i64 (max (Hi l W y h l.length) (Lo l y h l.length))], .int .i64 0] else .tup [.agg [.int .i64 0, .int .i64 0], .int .i64 1]
theorem Room_ok (l : Rows) (W y h : Int) (hl : l.length ≤ 9223372036854775807) : SemF Try.prog 16 [.slc 0 5 0 l.length, .int .i64 W, .int .i64 y, .int .i64 h] ⟨1, 1, [(0, .arr [.int .i64, .int .i64, .int .i64, .int .i64, .int .i64] .rd (.recs l))]⟩ (fun v _ => v = RQ l W y h ∧ nameless v = true) := by
  refine enter tt_ok Try.func16 (nt := 37) (cd := body Try.f16) rfl rfl rfl rfl ?_
  intro _
  refine call_pure [(0, some 0)] (valid_ok l W hl) rfl rfl rfl ?_ ?_ ?_
  · (repeat' first | exact trivial | exact rfl | refine And.intro ?_ ?_)
  · (repeat' first | exact trivial | exact rfl | refine And.intro ?_ ?_)
  intro v hv _
  subst hv
  have bad : ¬ Rm l W y h → RQ l W y h = .tup [.agg [.int .i64 0, .int .i64 0], .int .i64 1] := fun e => by unfold RQ; rw [if_neg e]
  intro _; refine ⟨fun g => ?_, fun g => ?_⟩
  · have g : (!decide (Vd l W)) = true := g
    rw [Bool.not_eq_true'] at g
    have g := of_decide_eq_false g
    intro _
    rw [bad (fun e => g e.1)]
    exact ⟨rfl, rfl⟩
  have g : (!decide (Vd l W)) = false := g
  rw [Bool.not_eq_false'] at g
  have hV := of_decide_eq_true g
  intro _
  refine high_test _ _ _ ?_
  intro _; refine ⟨fun g => ?_, fun g => ?_⟩
  · have g : (!decide (0 ≤ y ∧ y ≤ 1000000000)) = true := g
    rw [Bool.not_eq_true'] at g
    have g := of_decide_eq_false g
    intro _
    rw [bad (fun e => g e.2.1)]
    exact ⟨rfl, rfl⟩
  have g : (!decide (0 ≤ y ∧ y ≤ 1000000000)) = false := g
  rw [Bool.not_eq_false'] at g
  have hy := of_decide_eq_true g
  intro _
  refine len_test _ _ _ ?_
  intro _; refine ⟨fun g => ?_, fun g => ?_⟩
  · have g : (!decide (0 ≤ h ∧ h ≤ 1000000)) = true := g
    rw [Bool.not_eq_true'] at g
    have g := of_decide_eq_false g
    intro _
    rw [bad (fun e => g e.2.2)]
    exact ⟨rfl, rfl⟩
  have g : (!decide (0 ≤ h ∧ h ≤ 1000000)) = false := g
  rw [Bool.not_eq_false'] at g
  have hh := of_decide_eq_true g
  intro _
  refine call_pure [(0, some 0)] (room_ok l W y h hl hV hy hh) rfl rfl rfl ?_ ?_ ?_
  · (repeat' first | exact trivial | exact rfl | refine And.intro ?_ ?_)
  · (repeat' first | exact trivial | exact rfl | refine And.intro ?_ ?_)
  intro v hv _
  subst hv
  intro _
  have e : RQ l W y h = .tup [.agg [.int .i64 (Lo l y h l.length), .int .i64 (max (Hi l W y h l.length) (Lo l y h l.length))], .int .i64 0] := by unfold RQ; rw [if_pos ⟨hV, hy, hh⟩]
  rw [e]
  exact ⟨rfl, rfl⟩
def bt (l : Rows) : Nat → Int
  | 0 => 0
  | k + 1 => max (bt l k) (fy l k + fh l k)
theorem bt_bd {l : Rows} : ∀ k, (∀ i, i < k → Fl l i) → 0 ≤ bt l k ∧ bt l k ≤ 1001000000
  | 0, _ => by simp [bt]
  | k + 1, h => by
    have := bt_bd k (fun i hi => h i (by omega))
    obtain ⟨f0, f1, f2, f3, f4⟩ := h k (by omega)
    simp only [bt]; omega
theorem bt_le {l : Rows} : ∀ k, ∀ i, i < k → fy l i + fh l i ≤ bt l k
  | 0, i, h => by omega
  | k + 1, i, h => by
    simp only [bt]
    by_cases e : i = k
    · subst e; omega
    · have := bt_le (l := l) k i (by omega); omega
theorem below_ok (l : Rows) (W : Int) (hl : l.length ≤ 9223372036854775807) (hV : Vd l W) : SemF Try.prog 20 [.slc 0 5 0 l.length, .int .i64 W, .int .i64 0] ⟨1, 1, [(0, .arr [.int .i64, .int .i64, .int .i64, .int .i64, .int .i64] .rd (.recs l))]⟩ (fun v _ => v = .tup [.int .i64 (bt l l.length), .int .i64 0] ∧ nameless v = true) := by
  refine enter tt_ok Try.func20 (nt := 44) (cd := body Try.f20) rfl rfl rfl rfl ?_
  intro _
  refine call_pure [(0, some 0)] (valid_ok l W hl) rfl rfl rfl ?_ ?_ ?_
  · (repeat' first | exact trivial | exact rfl | refine And.intro ?_ ?_)
  · (repeat' first | exact trivial | exact rfl | refine And.intro ?_ ?_)
  intro v hv _
  subst hv
  intro _; refine ⟨fun g => ?_, fun g => ?_⟩
  · exfalso
    have g : (!decide (Vd l W)) = true := g
    rw [decide_eq_true hV] at g
    simp at g
  obtain ⟨⟨h200, hW⟩, hF⟩ := hV
  intro _
  refine ⟨fun g => absurd g (by decide), fun _ => ?_⟩
  intro _; refine ⟨fun g => absurd g (by decide), fun _ => ?_⟩
  intro _
  refine loop2 tt_ok [25, 8] [] 1 (fun k : { k : Nat // k ≤ l.length } => [(25, .int .i64 (k : Nat)), (8, .int .i64 (bt l k))]) (fun k => []) (fun k => l.length - k) ⟨0, by omega⟩ ?_
  intro _
  refine ⟨⟨th [] 1, rfl, rfl, rfl, rfl, rfl, rfl, ?_, ?_⟩, ?_⟩
  · (repeat' first | exact trivial | exact rfl | refine And.intro ?_ ?_)
  · (repeat' first | exact trivial | exact rfl | refine And.intro ?_ ?_)
  intro ⟨k, hk⟩
  have z : 0 + k = k := Nat.zero_add k
  intro _; refine ⟨fun g => ?_, fun g => ?_⟩
  rotate_left
  · have hkl := of_decide_eq_false (show decide ((k : Int) < (l.length : Int)) = false from g)
    have hkl : k = l.length := by omega
    subst hkl
    intro _
    exact ⟨rfl, rfl⟩
  have hkl := of_decide_eq_true (show decide ((k : Int) < (l.length : Int)) = true from g)
  intro _; refine ⟨show 0 ≤ (k : Int) ∧ (k : Int) < (l.length : Int) by omega, ?_⟩
  intro _; refine ⟨show 0 + (k : Int).toNat < l.length by omega, ?_⟩
  obtain ⟨f0, f1, f2, f3, f4⟩ := hF k (by omega)
  have eF : IntKind.i64.wrap (fy l (0 + k) + fh l (0 + k)) = fy l k + fh l k := by rw [z]; exact wrapS _ ⟨by omega, by omega⟩
  have ek := (wrap_nat k (by omega)).symm
  intro _; refine ⟨fun _ => ?_, fun g => absurd g (by decide)⟩
  intro _
  refine call_pure [] (bottom_ok (sd l (0 + k)) (fx l (0 + k)) (fy l (0 + k)) (fw l (0 + k)) (fh l (0 + k))) rfl rfl rfl ?_ ?_ ?_
  · (repeat' first | exact trivial | exact rfl | refine And.intro ?_ ?_)
  · (repeat' first | exact trivial | exact rfl | refine And.intro ?_ ?_)
  intro v hv _
  subst hv
  refine ⟨⟨k + 1, by omega⟩, by simp; omega, th [] 1, rfl, rfl, rfl, rfl, rfl, rfl, ?_, ?_⟩
  · (repeat' first | exact trivial | exact rfl | refine And.intro ?_ ?_)
    · exact ek
    · show max (bt l k) (fy l k + fh l k) = max (bt l k) (IntKind.i64.wrap (fy l (0 + k) + fh l (0 + k)))
      rw [eF]
  · (repeat' first | exact trivial | exact rfl | refine And.intro ?_ ?_)
theorem parts_has (l : Rows) (y a b : Int) (ha : 1 ≤ a) (hb : 1 ≤ b) (i : Nat) : hs l y (a + b) i = (hs l y a i || hs l (y + a) b i) := by
  unfold hs
  rw [← Bool.decide_or, decide_eq_decide]
  constructor
  · intro ⟨p, q, r⟩
    by_cases e : fy l i < y + a
    · exact .inl ⟨p, by omega, r⟩
    · exact .inr ⟨p, by omega, by omega⟩
  · rintro (⟨p, q, r⟩ | ⟨p, q, r⟩)
    · exact ⟨p, by omega, r⟩
    · exact ⟨p, by omega, by omega⟩
theorem parts_lo (l : Rows) (y a b : Int) (ha : 1 ≤ a) (hb : 1 ≤ b) : ∀ k, Lo l y (a + b) k = max (Lo l y a k) (Lo l (y + a) b k)
  | 0 => by simp [Lo]
  | k + 1 => by
    have ih := parts_lo l y a b ha hb k
    have e := parts_has l y a b ha hb k
    simp only [Lo, e, ih]
    by_cases s : sd l k = 1 <;> cases hs l y a k <;> cases hs l (y + a) b k <;> simp [s] <;> omega
theorem parts_hi (l : Rows) (W y a b : Int) (ha : 1 ≤ a) (hb : 1 ≤ b) : ∀ k, Hi l W y (a + b) k = min (Hi l W y a k) (Hi l W (y + a) b k)
  | 0 => by simp [Hi]
  | k + 1 => by
    have ih := parts_hi l W y a b ha hb k
    have e := parts_has l y a b ha hb k
    simp only [Hi, e, ih]
    by_cases s : sd l k = 1 <;> cases hs l y a k <;> cases hs l (y + a) b k <;> simp [s] <;> omega
theorem below_none (l : Rows) (y h : Int) : ∀ k, (∀ i, i < k → hs l y h i = false) → Lo l y h k = 0 ∧ ∀ W, Hi l W y h k = W
  | 0, _ => ⟨rfl, fun _ => rfl⟩
  | k + 1, hn => by
    obtain ⟨e1, e2⟩ := below_none l y h k (fun i hi => hn i (by omega))
    have := hn k (by omega)
    refine ⟨?_, fun W => ?_⟩
    · simp only [Lo, this, e1]; simp
    · simp only [Hi, this, e2]; simp
theorem RQ_ok {l : Rows} {W y h : Int} (e : Rm l W y h) : RQ l W y h = .tup [.agg [.int .i64 (Lo l y h l.length), .int .i64 (max (Hi l W y h l.length) (Lo l y h l.length))], .int .i64 0] := by unfold RQ; rw [if_pos e]
theorem law6 (l : Rows) (W y a b : Int) (hl : List.length l ≤ 9223372036854775807) (ha : 0 ≤ a ∧ a ≤ 65535) (hb : 0 ≤ b ∧ b ≤ 65535) : SemF Try.prog 6 [.slc 0 5 0 l.length, .int .i64 W, .int .i64 y, .int .u16 a, .int .u16 b] ⟨1, 1, [(0, .arr [.int .i64, .int .i64, .int .i64, .int .i64, .int .i64] .ro (.recs l))]⟩ (fun v _ => IsTrue v) := by
  refine enter tt_ok Try.func6 (nt := 172) (cd := body Try.f6) rfl rfl rfl rfl ?_
  intro _
  refine head_ok rfl Try.func15 (cd := body Try.f15) rfl ?_
  intro _; refine ⟨fun g => ?_, fun g => ?_⟩
  · intro _
    show true = true
    rfl
  have g1 := of_decide_eq_false (show decide ((l.length : Int) > 30) = false from g)
  intro _
  refine call_pure [(0, some 0)] (rvalid_ok l W hl) rfl rfl rfl ?_ ?_ ?_
  · (repeat' first | exact trivial | exact rfl | refine And.intro ?_ ?_)
  · (repeat' first | exact trivial | exact rfl | refine And.intro ?_ ?_)
  intro v hv _
  subst hv
  intro _; refine ⟨fun g => ?_, fun g => ?_⟩
  · intro _
    show true = true
    rfl
  have g : (!decide (Vd l W)) = false := g
  rw [Bool.not_eq_false'] at g
  have hV := of_decide_eq_true g
  intro _; refine ⟨fun g => ?_, fun g => ?_⟩
  · intro _
    show true = true
    rfl
  have y1 := of_decide_eq_false (show decide (y < 0) = false from g)
  intro _; refine ⟨fun g => ?_, fun g => ?_⟩
  · intro _
    show true = true
    rfl
  have y2 := of_decide_eq_false (show decide (y > 999800000) = false from g)
  intro _; refine ⟨fun g => ?_, fun g => ?_⟩
  · intro _
    show true = true
    rfl
  have a1 : a ≠ 0 := by
    have g : (a == 0) = false := g
    simpa using g
  intro _; refine ⟨fun g => ?_, fun g => ?_⟩
  · intro _
    show true = true
    rfl
  have b1 : b ≠ 0 := by
    have g : (b == 0) = false := g
    simpa using g
  have wa : IntKind.i64.wrap a = a := wrapS _ ⟨by omega, by omega⟩
  have wb : IntKind.i64.wrap b = b := wrapS _ ⟨by omega, by omega⟩
  intro _
  have bB := bt_bd (l := l) l.length hV.2
  have w1 : IntKind.i64.wrap (y + IntKind.i64.wrap a) = y + a := by rw [wa]; exact wrapS _ ⟨by omega, by omega⟩
  have w2 : IntKind.i64.wrap (IntKind.i64.wrap a + IntKind.i64.wrap b) = a + b := by rw [wa, wb]; exact wrapS _ ⟨by omega, by omega⟩
  refine call_pure [(0, some 0)] (Room_ok l W y (IntKind.i64.wrap a) hl) rfl rfl rfl ?_ ?_ ?_
  · (repeat' first | exact trivial | exact rfl | refine And.intro ?_ ?_)
  · (repeat' first | exact trivial | exact rfl | refine And.intro ?_ ?_)
  intro v hv _
  rw [wa, RQ_ok ⟨hV, ⟨by omega, by omega⟩, ⟨by omega, by omega⟩⟩] at hv; subst hv
  intro _
  refine call_pure [(0, some 0)] (Room_ok l W (IntKind.i64.wrap (y + IntKind.i64.wrap a)) (IntKind.i64.wrap b) hl) rfl rfl rfl ?_ ?_ ?_
  · (repeat' first | exact trivial | exact rfl | refine And.intro ?_ ?_)
  · (repeat' first | exact trivial | exact rfl | refine And.intro ?_ ?_)
  intro v hv _
  rw [w1, wb, RQ_ok ⟨hV, ⟨by omega, by omega⟩, ⟨by omega, by omega⟩⟩] at hv; subst hv
  intro _
  refine call_pure [(0, some 0)] (Room_ok l W y (IntKind.i64.wrap (IntKind.i64.wrap a + IntKind.i64.wrap b)) hl) rfl rfl rfl ?_ ?_ ?_
  · (repeat' first | exact trivial | exact rfl | refine And.intro ?_ ?_)
  · (repeat' first | exact trivial | exact rfl | refine And.intro ?_ ?_)
  intro v hv _
  rw [w2, RQ_ok ⟨hV, ⟨by omega, by omega⟩, ⟨by omega, by omega⟩⟩] at hv; subst hv
  intro _
  refine call_pure [(0, some 0)] (below_ok l W hl hV) rfl rfl rfl ?_ ?_ ?_
  · (repeat' first | exact trivial | exact rfl | refine And.intro ?_ ?_)
  · (repeat' first | exact trivial | exact rfl | refine And.intro ?_ ?_)
  intro v hv _
  subst hv
  intro _
  refine call_pure [(0, some 0)] (Room_ok l W (min (bt l l.length) 1000000000) (IntKind.i64.wrap a) hl) rfl rfl rfl ?_ ?_ ?_
  · (repeat' first | exact trivial | exact rfl | refine And.intro ?_ ?_)
  · (repeat' first | exact trivial | exact rfl | refine And.intro ?_ ?_)
  intro v hv _
  rw [wa, RQ_ok ⟨hV, ⟨by omega, by omega⟩, ⟨by omega, by omega⟩⟩] at hv; subst hv
  intro _; refine ⟨fun g => absurd g (by decide), fun _ => ?_⟩
  intro _; refine ⟨fun g => absurd g (by decide), fun _ => ?_⟩
  intro _; refine ⟨fun g => absurd g (by decide), fun _ => ?_⟩
  intro _; refine ⟨fun g => absurd g (by decide), fun _ => ?_⟩
  intro _; refine ⟨fun g => absurd g (by decide), fun _ => ?_⟩
  have pl := parts_lo l y a b (by omega) (by omega) l.length
  have ph := parts_hi l W y a b (by omega) (by omega) l.length
  generalize eA : Lo l y a l.length = A at *
  generalize eB : Lo l (y + a) b l.length = B at *
  generalize eC : Hi l W y a l.length = C at *
  generalize eD : Hi l W (y + a) b l.length = E at *
  intro _; refine ⟨by kernel_rfl, ?_⟩
  intro _; refine ⟨fun g => ?_, fun g => ?_⟩
  · exfalso
    have g : (Lo l y (a + b) l.length != max A B) = true := g
    rw [pl] at g
    simp at g
  intro _; refine ⟨fun g => ?_, fun g => ?_⟩
  · exfalso
    have g := of_decide_eq_true (show decide (Lo l y (a + b) l.length > max (Hi l W y (a + b) l.length) (Lo l y (a + b) l.length)) = true from g)
    omega
  intro _; refine ⟨fun g => ?_, fun g => ?_⟩
  · have g1 := of_decide_eq_true (show decide (max A B ≤ min (max C A) (max E B)) = true from g)
    intro _; refine ⟨fun g => ?_, fun g => ?_⟩
    · exfalso
      have g := of_decide_eq_true (show decide (max (Hi l W y (a + b) l.length) (Lo l y (a + b) l.length) < max A B) = true from g)
      omega
    intro _; refine ⟨fun _ => ?_, fun g => ?_⟩
    rotate_left
    · exfalso
      have g := of_decide_eq_false (show decide (max A B ≤ min (max C A) (max E B)) = false from g)
      exact g g1
    intro _; refine ⟨fun g => ?_, fun g => ?_⟩
    · exfalso
      have g := of_decide_eq_true (show decide (max (Hi l W y (a + b) l.length) (Lo l y (a + b) l.length) > min (max C A) (max E B)) = true from g)
      omega
    intro _; refine ⟨fun g => ?_, fun g => ?_⟩
    · have g : decide (bt l l.length > 1000000000) = true := g
      intro _
      show true = true
      rfl
    have g := of_decide_eq_false (show decide (bt l l.length > 1000000000) = false from g)
    have hn := below_none l (min (bt l l.length) 1000000000) a l.length (fun i hi => by
      have := bt_le (l := l) l.length i hi
      unfold hs; exact decide_eq_false (fun h => by omega))
    have hW := hV.1.2.1
    intro _
    show (_ && _) = true
    rw [hn.1, hn.2 W, show max W 0 = W by omega]
    simp
  · have g1 := of_decide_eq_false (show decide (max A B ≤ min (max C A) (max E B)) = false from g)
    intro _; refine ⟨fun g => ?_, fun g => ?_⟩
    · exfalso
      have g := of_decide_eq_true (show decide (max A B ≤ min (max C A) (max E B)) = true from g)
      omega
    intro _; refine ⟨fun g => ?_, fun g => ?_⟩
    · have g : decide (bt l l.length > 1000000000) = true := g
      intro _
      show true = true
      rfl
    have g := of_decide_eq_false (show decide (bt l l.length > 1000000000) = false from g)
    have hn := below_none l (min (bt l l.length) 1000000000) a l.length (fun i hi => by
      have := bt_le (l := l) l.length i hi
      unfold hs; exact decide_eq_false (fun h => by omega))
    have hW := hV.1.2.1
    intro _
    show (_ && _) = true
    rw [hn.1, hn.2 W, show max W 0 = W by omega]
    simp

theorem walk (w : World) (v_l : Value) (s_l : Src) (l : List (List Go.Vm2.D)) (cap_l : Nat) (hk_l : s_l.ks = [.int .i64, .int .i64, .int .i64, .int .i64, .int .i64]) (ha_l : s_l.ac = .recs l) (hs_l : s_l.lies w) (hn_l : s_l.at_ = none → l.length = 0) (hc_l : l.length ≤ cap_l) (hv_l : v_l = s_l.val cap_l) (hm_l : l.length ≤ maxLen) (w_l : ∀ n ∈ l, rowWf [.int .i64, .int .i64, .int .i64, .int .i64, .int .i64] n) (wd : Int) (w_wd : (Lit.int .i64 wd).wf = true) (yy : Int) (w_yy : (Lit.int .i64 yy).wf = true) (aa : Int) (w_aa : (Lit.int .u16 aa).wf = true) (bb : Int) (w_bb : (Lit.int .u16 bb).wf = true) :
    Calls Try.prog 6 #[v_l, .int .i64 wd, .int .i64 yy, .int .u16 aa, .int .u16 bb] w fun e w' => e = .returned (.bool true) ∧ Below w.heap.size w w' := by
  obtain ⟨at_l, ks_l, ac_l⟩ := s_l
  simp only [] at hk_l ha_l
  subst hk_l ha_l
  have h_l : l.length ≤ 9223372036854775807 := by unfold maxLen at hm_l; omega
  have b_wd := w_wd
  simp [Lit.wf, IntKind.min, IntKind.max, IntKind.signed, IntKind.bits] at b_wd
  have b_yy := w_yy
  simp [Lit.wf, IntKind.min, IntKind.max, IntKind.signed, IntKind.bits] at b_yy
  have b_aa := w_aa
  simp [Lit.wf, IntKind.min, IntKind.max, IntKind.signed, IntKind.bits] at b_aa
  have b_bb := w_bb
  simp [Lit.wf, IntKind.min, IntKind.max, IntKind.signed, IntKind.bits] at b_bb
  exact top_run (by kernel_rfl) (by kernel_rfl) (T := [15]) (fun f hf w => by
      rcases List.mem_cons.1 hf with e | e
      · subst e; exact head w
      · exact (List.not_mem_nil e).elim) (l := [⟨at_l, [.int .i64, .int .i64, .int .i64, .int .i64, .int .i64], .recs l⟩]) (args := [.slc 0 5 0 l.length, .int .i64 wd, .int .i64 yy, .int .u16 aa, .int .u16 bb]) («as» := [Src.av 0 cap_l ⟨at_l, [.int .i64, .int .i64, .int .i64, .int .i64, .int .i64], .recs l⟩, .int .i64 wd, .int .i64 yy, .int .u16 aa, .int .u16 bb]) (cargs := [v_l, .int .i64 wd, .int .i64 yy, .int .u16 aa, .int .u16 bb]) w
    (fun s h => by
      rcases List.mem_cons.1 h with e | h
      · subst e; exact hs_l
      · exact (List.not_mem_nil h).elim)
    (Cvs.cons (src_cv (s := ⟨at_l, [.int .i64, .int .i64, .int .i64, .int .i64, .int .i64], .recs l⟩) rfl 5 hc_l hn_l) (Cvs.cons mk_int (Cvs.cons mk_int (Cvs.cons mk_int (Cvs.cons mk_int Cvs.nil)))))
    (by simp only [Go.Vm.convs, Go.Vm.conv]; rw [src_conv (j := 0) (s := ⟨at_l, [.int .i64, .int .i64, .int .i64, .int .i64, .int .i64], .recs l⟩) rfl, hv_l])
    (law6 l wd yy aa bb h_l ⟨by omega, by omega⟩ ⟨by omega, by omega⟩)

set_option maxRecDepth 100000 in
theorem lifted (os : Os) (started : os.Started) (H : Type) (enc : TypeId × Value → H) :
    ReturnsInHanded {} Try.checked os 6 .any (Rows.floatsPartsSpec.pre6 enc Try.prog Try.f6 Rows.floatsPartsRow.domain false) (Rows.floatsPartsSpec.post enc Try.prog Try.f6 false true false false) := by
  refine returnsInHanded_of_change (C := Try.checked) own started (by kernel_rfl) Try.func6
    (ChangeSpec.witness6 (enc := enc) (C := Try.checked) false ⟨#[], #[.slice none 0 0, .int .i64 0, .int .i64 0, .int .u16 0, .int .u16 0], []⟩ 8 (by kernel_rfl) (by kernel_rfl) (by kernel_rfl) (by kernel_rfl)) ?_
  intro W base args ds gs before hval0 hW hcnd _
  have hval : ∀ (j : Nat) t v, Try.f6.params[j]? = some t → args[j]? = some v → Value.okWide Try.prog W .any base t v := hval0
  have hW' := hW
  obtain ⟨p, q, hA0, hV, rfl, hfz, hnd⟩ := hW
  have hA : DataW.TrodAll enc Try.prog W 0 (fun _ => true) true Try.f6.params.toList args.toList ds p := hA0
  rw [Try.params6] at hA hval
  obtain ⟨v0, vs0, d0, ds0, p0, q0, hargs, rfl, rfl, h0, r0⟩ := trodAll_cons hA
  obtain ⟨v1, vs1, d1, ds1, p1, q1, rfl, rfl, rfl, h1, r1⟩ := trodAll_cons r0
  obtain ⟨v2, vs2, d2, ds2, p2, q2, rfl, rfl, rfl, h2, r2⟩ := trodAll_cons r1
  obtain ⟨v3, vs3, d3, ds3, p3, q3, rfl, rfl, rfl, h3, r3⟩ := trodAll_cons r2
  obtain ⟨v4, vs4, d4, ds4, p4, q4, rfl, rfl, rfl, h4, r4⟩ := trodAll_cons r3
  obtain ⟨rfl, rfl, rfl⟩ := trodAll_nil r4
  obtain rfl : args = #[v0, v1, v2, v3, v4] := by cases args; simp_all
  obtain ⟨rfl, rfl⟩ := trodVars_none hV
  obtain ⟨s_l, l, cap_l, hk_l, ha_l, hs_l, hn_l, hc_l, hv_l, hm_l, w_l⟩ := Go.Vm2.open_recs (ks := [.int .i64, .int .i64, .int .i64, .int .i64, .int .i64]) Try.underlying22 Try.underlying41 (by kernel_rfl) (by simp) (by kernel_rfl) (hval 0 22 v0 rfl rfl) h0
  have hlt0 : ∀ x ∈ p0, x.block < W.heap.size := fun x hx => by simpa using hW'.lt x (by simp [hx])
  obtain ⟨wd, rfl, rfl, rfl, w_wd⟩ := open_int Try.underlying3 (hval 1 3 v1 rfl rfl) h1
  obtain ⟨yy, rfl, rfl, rfl, w_yy⟩ := open_int Try.underlying3 (hval 2 3 v2 rfl rfl) h2
  obtain ⟨aa, rfl, rfl, rfl, w_aa⟩ := open_int Try.underlying37 (hval 3 37 v3 rfl rfl) h3
  obtain ⟨bb, rfl, rfl, rfl, w_bb⟩ := open_int Try.underlying37 (hval 4 37 v4 rfl rfl) h4
  clear hA0 hval0
  refine (walk W v0 s_l l cap_l hk_l ha_l hs_l hn_l hc_l hv_l hm_l w_l wd w_wd yy w_yy aa w_aa bb w_bb).mono fun e W' ⟨he, hg⟩ => ?_
  subst he
  exact ⟨_, rfl, _, _, _, [], _, [], hW', trodAll_cons_mk (shut_bool Try.underlying4 _) trodAll_mk0, (trodAll_cons_mk (Below.trod laidOut (by kernel_rfl) (of_decide_eq_true (by kernel_rfl)) h0 hg hlt0) (trodAll_cons_mk (shut_int Try.underlying3 w_wd) (trodAll_cons_mk (shut_int Try.underlying3 w_yy) (trodAll_cons_mk (shut_int Try.underlying37 w_aa) (trodAll_cons_mk (shut_int Try.underlying37 w_bb) trodAll_mk0))))), rfl, hg.frame _, fun h => by cases h⟩

theorem over : Rows.floatsPartsRow.holds Try.pinned (OpenSpec.ofChange Rows.floatsPartsSpec) :=
  OpenClaim.holds_of_wide 6 Try.f6 rfl rfl rfl rfl rfl rfl rfl ⟨rfl, rfl, rfl, rfl, rfl⟩ rfl rfl rfl rfl rfl (by kernel_rfl) Try.func6 (by kernel_rfl)
    (of_decide_eq_true (by kernel_rfl)) (by unfold Func.isWrapper; first | (rw [if_pos (by decide +kernel)]; kernel_rfl) | (rw [if_neg (by decide +kernel)]; exact ⟨rfl, rfl⟩))
    (fun os started H enc _ => lifted os started H enc)

/-- the statement -/
theorem proved : Rows.FloatsPartsSaid :=
  over
#print axioms proved
end Go.Proofs.Ytojkgickckchgab.floatsParts
