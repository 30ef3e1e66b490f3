/-
  RowAligns: whatever the arguments, the law returns true, and its arguments read as before. No conditions.
-/
import Derived.Test.YtojkgickckchgaaRows
import Derived.Test.YtojkgickckchgaaVwOpen2
import Derived.Test.YtojkgickckchgaaVwRules6
import Derived.Test.YtojkgickckchgaaVmSym
import Derived.WalkKit
import Derived.ProofKit
import Derived.OpenShut
import Derived.Carry
namespace Go.Proofs.Ytojkgickckchgaa.rowAligns
open Go.ChangeShapes Go.WideShapes Go.ChangeAt Go.RowKit
open Go.Vm (Facts Val Sound)
open Go.Vm2
set_option linter.unusedVariables false
set_option linter.unusedSectionVars false

theorem own : ownKnob Try.prog.godebug = none := by kernel_rfl
theorem laidOut : laidOutB Try.prog = true := by kernel_rfl
def ts : List Nat := [58, 22, 25, 3, 29, 38, 39, 5, 41, 42, 44, 53, 4, 61, 60, 36, 91, 66, 69]
def tt : Go.Vm2.TT := [
  (58, ⟨(.slice 22 1 24 [.nils]), false, 1, .nils, true⟩),
  (22, ⟨(.slice 3 1 8 [.int .i64]), false, 1, .nils, true⟩),
  (25, ⟨(.int .i64), false, 1, .int .i64 (0), true⟩),
  (3, ⟨(.int .i64), false, 1, .int .i64 (0), true⟩),
  (29, ⟨(.slice 38 7 72 [.int .i64, .int .i64, .int .i64, .int .i64, .int .i64, .bool, .nils]), false, 1, .nils, true⟩),
  (38, ⟨(.struct [⟨0, 1, false⟩, ⟨1, 1, false⟩, ⟨2, 1, false⟩, ⟨3, 1, false⟩, ⟨4, 1, false⟩, ⟨5, 1, false⟩, ⟨6, 1, false⟩]), true, 7, .agg [.int .i64 (0), .int .i64 (0), .int .i64 (0), .int .i64 (0), .int .i64 (0), .bool false, .nils], false⟩),
  (39, ⟨(.array 3 3 1), true, 3, .agg [.int .i64 (0), .int .i64 (0), .int .i64 (0)], true⟩),
  (5, ⟨(.int .u8), false, 1, .int .u8 (0), true⟩),
  (41, ⟨(.int .u32), false, 1, .int .u32 (0), true⟩),
  (42, ⟨(.int .u16), false, 1, .int .u16 (0), true⟩),
  (44, ⟨(.slice 53 3 24 [.int .i64, .int .i64, .int .i64]), false, 1, .nils, true⟩),
  (53, ⟨(.struct [⟨0, 1, false⟩, ⟨1, 1, false⟩, ⟨2, 1, false⟩]), true, 3, .agg [.int .i64 (0), .int .i64 (0), .int .i64 (0)], true⟩),
  (4, ⟨.bool, false, 1, .bool false, true⟩),
  (61, ⟨(.array 3 60 1), true, 3, .agg [.nilf, .nilf, .nilf], true⟩),
  (60, ⟨.other, false, 1, .nilf, true⟩),
  (36, ⟨(.slice 91 5 48 [.str, .int .i64, .int .i64, .int .i64, .int .i64]), false, 1, .nils, true⟩),
  (91, ⟨(.struct [⟨0, 1, false⟩, ⟨1, 1, false⟩, ⟨2, 1, false⟩, ⟨3, 1, false⟩, ⟨4, 1, false⟩]), true, 5, .agg [.str [], .int .i64 (0), .int .i64 (0), .int .i64 (0), .int .i64 (0)], true⟩),
  (66, ⟨(.map .i64 4), false, 1, .nilm, true⟩),
  (69, ⟨(.slice 4 1 1 [.bool]), false, 1, .nils, true⟩)]
theorem tt_mk : mkTT Try.prog ts = some tt := by kernel_rfl
theorem head (w : World) : Calls Try.prog 15 #[] w fun e w' => e = .returned (.bool true) ∧ Below w.heap.size w w' :=
  Go.Vm.head_run (by kernel_rfl) (by kernel_rfl) (n := 1000000) (by kernel_rfl) w
instance facts : Facts := ⟨[], [15], false⟩
instance val : Val := ⟨fun _ => 0⟩
instance sound : Sound := ⟨fun f hf => (List.not_mem_nil hf).elim⟩
theorem tt_ok : TTok Try.prog tt := ttok_mk tt_mk
def body (f : Func) : Code := match f.body with | some c => c | none => .skip
set_option maxRecDepth 100000
theorem wrap_nat (k : Nat) (h : k < 9223372036854775807) : IntKind.i64.wrap ((k : Int) + 1) = ((k + 1 : Nat) : Int) := by
  rw [IntKind.wrap_i64]; omega
theorem wrapS (n : Int) (h : -9000000000000000000 ≤ n ∧ n ≤ 9000000000000000000) : IntKind.i64.wrap n = n := by rw [IntKind.wrap_i64]; omega
abbrev Rows := List (List D)
abbrev K3 : List CK := [.int .i64, .int .i64, .int .i64]
abbrev K1 : List CK := [.int .i64]
theorem len_test (n : Int) (h : H) (K : V → H → Prop) (hK : K (.test (decide (0 ≤ n ∧ n ≤ 1000000))) h) : SemF Try.prog 41 [.int .i64 n] h K := by
  refine SemF.test ?_
  refine enter tt_ok Try.func41 (nt := 9) (cd := body Try.f41) rfl rfl rfl rfl ?_
  intro _; refine ⟨fun g => ?_, fun g => ?_⟩
  · have g := of_decide_eq_true (show decide (n ≥ 0) = true from g)
    intro _
    refine ⟨_, .inr rfl, ?_⟩
    have : decide (0 ≤ n ∧ n ≤ 1000000) = decide (n ≤ 1000000) := by
      by_cases e : n ≤ 1000000
      · rw [decide_eq_true e, decide_eq_true (show 0 ≤ n ∧ n ≤ 1000000 from ⟨by omega, e⟩)]
      · rw [decide_eq_false e, decide_eq_false (fun m => e m.2)]
    rw [← this]; exact hK
  · have g := of_decide_eq_false (show decide (n ≥ 0) = false from g)
    intro _
    refine ⟨false, .inl rfl, ?_⟩
    have : decide (0 ≤ n ∧ n ≤ 1000000) = false := decide_eq_false (fun m => by have := m.1; omega)
    rw [← this]; exact hK
theorem gap_test (n : Int) (h : H) (K : V → H → Prop) (hK : K (.test (decide (0 ≤ n ∧ n ≤ 100000))) h) : SemF Try.prog 42 [.int .i64 n] h K := by
  refine SemF.test ?_
  refine enter tt_ok Try.func42 (nt := 9) (cd := body Try.f42) rfl rfl rfl rfl ?_
  intro _; refine ⟨fun g => ?_, fun g => ?_⟩
  · have g := of_decide_eq_true (show decide (n ≥ 0) = true from g)
    intro _
    refine ⟨_, .inr rfl, ?_⟩
    have : decide (0 ≤ n ∧ n ≤ 100000) = decide (n ≤ 100000) := by
      by_cases e : n ≤ 100000
      · rw [decide_eq_true e, decide_eq_true (show 0 ≤ n ∧ n ≤ 100000 from ⟨by omega, e⟩)]
      · rw [decide_eq_false e, decide_eq_false (fun m => e m.2)]
    rw [← this]; exact hK
  · have g := of_decide_eq_false (show decide (n ≥ 0) = false from g)
    intro _
    refine ⟨false, .inl rfl, ?_⟩
    have : decide (0 ≤ n ∧ n ≤ 100000) = false := decide_eq_false (fun m => by have := m.1; omega)
    rw [← this]; exact hK
theorem in_test (n lo hi : Int) (h : H) (K : V → H → Prop) (hK : K (.test (decide (lo ≤ n ∧ n ≤ hi))) h) : SemF Try.prog 44 [.int .i64 n, .int .i64 lo, .int .i64 hi] h K := by
  refine SemF.test ?_
  refine enter tt_ok Try.func44 (nt := 15) (cd := body Try.f44) rfl rfl rfl rfl ?_
  intro _; refine ⟨fun g => ?_, fun g => ?_⟩
  · have g := of_decide_eq_true (show decide (lo ≤ n) = true from g)
    intro _
    refine ⟨_, .inr rfl, ?_⟩
    have : decide (lo ≤ n ∧ n ≤ hi) = decide (n ≤ hi) := by
      by_cases e : n ≤ hi
      · rw [decide_eq_true e, decide_eq_true (show lo ≤ n ∧ n ≤ hi from ⟨by omega, e⟩)]
      · rw [decide_eq_false e, decide_eq_false (fun m => e m.2)]
    rw [← this]; exact hK
  · have g := of_decide_eq_false (show decide (lo ≤ n) = false from g)
    intro _
    refine ⟨false, .inl rfl, ?_⟩
    have : decide (lo ≤ n ∧ n ≤ hi) = false := decide_eq_false (fun m => by have := m.1; omega)
    rw [← this]; exact hK
def ba (l : Rows) (i : Nat) : Int := ((l.getD i []).getD 0 (D.n 0)).int
def gr (l : Rows) (i : Nat) : Int := ((l.getD i []).getD 1 (D.n 0)).int
def mx (l : Rows) (i : Nat) : Int := ((l.getD i []).getD 2 (D.n 0)).int
def Tk (l : Rows) (i : Nat) : Prop := (0 ≤ ba l i ∧ ba l i ≤ 1000000) ∧ (0 ≤ gr l i ∧ gr l i ≤ 1000) ∧ (mx l i ≠ 0 → ba l i ≤ mx l i ∧ mx l i ≤ 1000000)
def Vd (l : Rows) : Prop := (1 ≤ l.length ∧ l.length ≤ 64) ∧ ∀ i, i < l.length → Tk l i
instance decTk (l : Rows) (i : Nat) : Decidable (Tk l i) := inferInstanceAs (Decidable (_ ∧ _))
instance decVd (l : Rows) : Decidable (Vd l) := inferInstanceAs (Decidable (_ ∧ _))
abbrev VIdx (l : Rows) := { k : Nat // k ≤ l.length ∧ ∀ i, i < k → Tk l i }
theorem vidx_succ {l : Rows} {k : Nat} (hm : ∀ i, i < k → Tk l i) (h : Tk l k) : ∀ i, i < k + 1 → Tk l i := fun i hi => by
  by_cases e : i = k
  · subst e; exact h
  · exact hm i (by omega)
theorem vend {l : Rows} (hm : ∀ i, i < l.length → Tk l i) : decide (Vd l) = decide (1 ≤ l.length ∧ l.length ≤ 64) := by
  by_cases e : 1 ≤ l.length ∧ l.length ≤ 64
  · rw [decide_eq_true e, decide_eq_true (show Vd l from ⟨e, hm⟩)]
  · rw [decide_eq_false e, decide_eq_false (fun h : Vd l => e h.1)]
abbrev Hl (l : Rows) : H := ⟨1, 1, [(0, .arr [.int .i64, .int .i64, .int .i64] .rd (.recs l))]⟩
theorem valid_ok (l : Rows) (hl : l.length ≤ 9223372036854775807) : SemF Try.prog 27 [.slc 0 3 0 l.length] ⟨1, 1, [(0, .arr [.int .i64, .int .i64, .int .i64] .rd (.recs l))]⟩ (fun v _ => v = .test (decide (Vd l)) ∧ nameless v = true) := by
  refine SemF.test ?_
  refine enter tt_ok Try.func27 (nt := 51) (cd := body Try.f27) rfl rfl rfl rfl ?_
  intro _
  refine loop2 tt_ok [7] [] 1 (fun k : VIdx l => [(7, .int .i64 (k : Nat))]) (fun _ => []) (fun k => l.length - k) ⟨0, by omega, fun i h => by omega⟩ ?_
  intro _
  refine ⟨⟨th [] 1, rfl, rfl, rfl, rfl, rfl, rfl, ?_, ?_⟩, ?_⟩
  · (repeat' first | exact trivial | exact rfl | refine And.intro ?_ ?_)
  · (repeat' first | exact trivial | exact rfl | refine And.intro ?_ ?_)
  intro ⟨k, hk, hmk⟩
  have hF : ¬ Tk l k → k < l.length → (∃ b, (V.bool true = .bool b ∨ V.bool true = .test b) → False) → True := fun _ _ _ => trivial
  have z : 0 + k = k := Nat.zero_add k
  intro _; refine ⟨fun g => ?_, fun g => ?_⟩
  · have hkl := of_decide_eq_true (show decide ((k : Int) < (l.length : Int)) = true from g)
    have bad : ¬ Tk l k → decide (Vd l) = false := fun h => decide_eq_false (fun hv => h (hv.2 k (by omega)))
    intro _; refine ⟨show 0 ≤ (k : Int) ∧ (k : Int) < (l.length : Int) by omega, ?_⟩
    intro _; refine ⟨show 0 + (k : Int).toNat < l.length by omega, ?_⟩
    intro _
    refine len_test _ _ _ ?_
    intro _; refine ⟨fun g => ?_, fun g => ?_⟩
    · have g : (!decide (0 ≤ ba l (0 + k) ∧ ba l (0 + k) ≤ 1000000)) = true := g
      rw [z, Bool.not_eq_true'] at g
      have g := of_decide_eq_false g
      intro _
      exact ⟨false, .inl rfl, by rw [bad (fun h => g h.1)], rfl⟩
    have g : (!decide (0 ≤ ba l (0 + k) ∧ ba l (0 + k) ≤ 1000000)) = false := g
    rw [z, Bool.not_eq_false'] at g
    have g1 := of_decide_eq_true g
    intro _; refine ⟨fun g => ?_, fun g => ?_⟩
    · have g : decide (gr l (0 + k) < 0) = true := g
      rw [z] at g
      have g := of_decide_eq_true g
      intro _
      exact ⟨false, .inl rfl, by rw [bad (fun h => by have := h.2.1.1; omega)], rfl⟩
    have g : decide (gr l (0 + k) < 0) = false := g
    rw [z] at g
    have g2 := of_decide_eq_false g
    intro _; refine ⟨fun g => ?_, fun g => ?_⟩
    · have g : decide (gr l (0 + k) > 1000) = true := g
      rw [z] at g
      have g := of_decide_eq_true g
      intro _
      exact ⟨false, .inl rfl, by rw [bad (fun h => by have := h.2.1.2; omega)], rfl⟩
    have g : decide (gr l (0 + k) > 1000) = false := g
    rw [z] at g
    have g3 := of_decide_eq_false g
    intro _; refine ⟨fun g => ?_, fun g => ?_⟩
    · have g : (mx l (0 + k) != 0) = true := g
      rw [z] at g
      have g4 : mx l k ≠ 0 := by simpa using g
      intro _; refine ⟨fun g => ?_, fun g => ?_⟩
      · have g : decide (mx l (0 + k) < ba l (0 + k)) = true := g
        rw [z] at g
        have g := of_decide_eq_true g
        intro _
        exact ⟨false, .inl rfl, by rw [bad (fun h => by have := h.2.2 g4; omega)], rfl⟩
      have g : decide (mx l (0 + k) < ba l (0 + k)) = false := g
      rw [z] at g
      have g5 := of_decide_eq_false g
      intro _; refine ⟨fun g => ?_, fun g => ?_⟩
      · have g : decide (mx l (0 + k) > 1000000) = true := g
        rw [z] at g
        have g := of_decide_eq_true g
        intro _
        exact ⟨false, .inl rfl, by rw [bad (fun h => by have := h.2.2 g4; omega)], rfl⟩
      have g : decide (mx l (0 + k) > 1000000) = false := g
      rw [z] at g
      have g6 := of_decide_eq_false g
      refine ⟨⟨k + 1, by omega, vidx_succ hmk ⟨g1, ⟨by omega, by omega⟩, fun _ => ⟨by omega, by omega⟩⟩⟩, by simp; omega, th [] 1, rfl, rfl, rfl, rfl, rfl, rfl, ?_, ?_⟩
      · (repeat' first | exact trivial | exact rfl | refine And.intro ?_ ?_)
        exact (wrap_nat k (by omega)).symm
      · (repeat' first | exact trivial | exact rfl | refine And.intro ?_ ?_)
    have g : (mx l (0 + k) != 0) = false := g
    rw [z] at g
    have g4 : mx l k = 0 := by simpa using g
    refine ⟨⟨k + 1, by omega, vidx_succ hmk ⟨g1, ⟨by omega, by omega⟩, fun h => absurd g4 h⟩⟩, by simp; omega, th [] 1, rfl, rfl, rfl, rfl, rfl, rfl, ?_, ?_⟩
    · (repeat' first | exact trivial | exact rfl | refine And.intro ?_ ?_)
      exact (wrap_nat k (by omega)).symm
    · (repeat' first | exact trivial | exact rfl | refine And.intro ?_ ?_)
  · have hkl := of_decide_eq_false (show decide ((k : Int) < (l.length : Int)) = false from g)
    have hkl : k = l.length := by omega
    subst hkl
    intro _; refine ⟨fun g => ?_, fun g => ?_⟩
    · have g := of_decide_eq_true (show decide ((l.length : Int) ≥ 1) = true from g)
      intro _
      refine ⟨_, .inr rfl, ?_, rfl⟩
      rw [vend hmk]
      by_cases e : l.length ≤ 64
      · rw [decide_eq_true (show (l.length : Int) ≤ 64 by omega), decide_eq_true (show 1 ≤ l.length ∧ l.length ≤ 64 by omega)]
      · rw [decide_eq_false (show ¬ (l.length : Int) ≤ 64 by omega), decide_eq_false (show ¬ (1 ≤ l.length ∧ l.length ≤ 64) by omega)]
    · have g := of_decide_eq_false (show decide ((l.length : Int) ≥ 1) = false from g)
      intro _
      exact ⟨false, .inl rfl, by rw [vend hmk, decide_eq_false (show ¬ (1 ≤ l.length ∧ l.length ≤ 64) by omega)], rfl⟩
theorem rvalid_ok (l : Rows) (hl : l.length ≤ 9223372036854775807) : SemF Try.prog 28 [.slc 0 3 0 l.length] ⟨1, 1, [(0, .arr [.int .i64, .int .i64, .int .i64] .rd (.recs l))]⟩ (fun v _ => v = .test (decide (Vd l)) ∧ nameless v = true) := by
  refine SemF.test ?_
  refine enter tt_ok Try.func28 (nt := 62) (cd := body Try.f28) rfl rfl rfl rfl ?_
  intro _
  refine loop2 tt_ok [3] [] 1 (fun k : VIdx l => [(3, .int .i64 (k : Nat))]) (fun _ => []) (fun k => l.length - k) ⟨0, by omega, fun i h => by omega⟩ ?_
  intro _
  refine ⟨⟨th [] 1, rfl, rfl, rfl, rfl, rfl, rfl, ?_, ?_⟩, ?_⟩
  · (repeat' first | exact trivial | exact rfl | refine And.intro ?_ ?_)
  · (repeat' first | exact trivial | exact rfl | refine And.intro ?_ ?_)
  intro ⟨k, hk, hmk⟩
  have z : 0 + k = k := Nat.zero_add k
  intro _; refine ⟨fun g => ?_, fun g => ?_⟩
  · have hkl := of_decide_eq_true (show decide ((k : Int) < (l.length : Int)) = true from g)
    have bad : ¬ Tk l k → decide (Vd l) = false := fun h => decide_eq_false (fun hv => h (hv.2 k (by omega)))
    have i1 : 0 ≤ (k : Int) ∧ (k : Int) < (l.length : Int) := by omega
    have i2 : 0 + (k : Int).toNat < l.length := by omega
    intro _; refine ⟨i1, ?_⟩
    intro _; refine ⟨i2, ?_⟩
    intro _
    refine in_test _ _ _ _ _ ?_
    intro _; refine ⟨i1, ?_⟩
    intro _; refine ⟨i2, ?_⟩
    intro _
    refine in_test _ _ _ _ _ ?_
    intro _; refine ⟨i1, ?_⟩
    intro _; refine ⟨i2, ?_⟩
    intro _; refine ⟨i1, ?_⟩
    intro _; refine ⟨i2, ?_⟩
    intro _
    refine Or.inl ?_
    intro _
    refine in_test _ _ _ _ _ ?_
    intro _; refine ⟨by kernel_rfl, ?_⟩
    intro _; refine ⟨fun g => ?_, fun g => ?_⟩
    · have g : (!decide (0 ≤ ba l (0 + k) ∧ ba l (0 + k) ≤ 1000000)) = true := g
      rw [z, Bool.not_eq_true'] at g
      have g := of_decide_eq_false g
      intro _
      exact ⟨false, .inl rfl, by rw [bad (fun h => g h.1)], rfl⟩
    have g : (!decide (0 ≤ ba l (0 + k) ∧ ba l (0 + k) ≤ 1000000)) = false := g
    rw [z, Bool.not_eq_false'] at g
    have g1 := of_decide_eq_true g
    intro _; refine ⟨fun g => ?_, fun g => ?_⟩
    · have g : (!decide (0 ≤ gr l (0 + k) ∧ gr l (0 + k) ≤ 1000)) = true := g
      rw [z, Bool.not_eq_true'] at g
      have g := of_decide_eq_false g
      intro _
      exact ⟨false, .inl rfl, by rw [bad (fun h => g h.2.1)], rfl⟩
    have g : (!decide (0 ≤ gr l (0 + k) ∧ gr l (0 + k) ≤ 1000)) = false := g
    rw [z, Bool.not_eq_false'] at g
    have g2 := of_decide_eq_true g
    intro _; refine ⟨i1, ?_⟩
    intro _; refine ⟨i2, ?_⟩
    intro _; refine ⟨fun g => ?_, fun g => ?_⟩
    · have g : (mx l (0 + k) != 0) = true := g
      rw [z] at g
      have g4 : mx l k ≠ 0 := by simpa using g
      intro _; refine ⟨fun g => ?_, fun g => ?_⟩
      · have g : (!decide (ba l (0 + k) ≤ mx l (0 + k) ∧ mx l (0 + k) ≤ 1000000)) = true := g
        rw [z, Bool.not_eq_true'] at g
        have g := of_decide_eq_false g
        intro _
        exact ⟨false, .inl rfl, by rw [bad (fun h => g (h.2.2 g4))], rfl⟩
      have g : (!decide (ba l (0 + k) ≤ mx l (0 + k) ∧ mx l (0 + k) ≤ 1000000)) = false := g
      rw [z, Bool.not_eq_false'] at g
      have g5 := of_decide_eq_true g
      refine ⟨⟨k + 1, by omega, vidx_succ hmk ⟨g1, g2, fun _ => g5⟩⟩, by simp; omega, th [] 1, rfl, rfl, rfl, rfl, rfl, rfl, ?_, ?_⟩
      · (repeat' first | exact trivial | exact rfl | refine And.intro ?_ ?_)
        exact (wrap_nat k (by omega)).symm
      · (repeat' first | exact trivial | exact rfl | refine And.intro ?_ ?_)
    have g : (mx l (0 + k) != 0) = false := g
    rw [z] at g
    have g4 : mx l k = 0 := by simpa using g
    refine ⟨⟨k + 1, by omega, vidx_succ hmk ⟨g1, g2, fun h => absurd g4 h⟩⟩, by simp; omega, th [] 1, rfl, rfl, rfl, rfl, rfl, rfl, ?_, ?_⟩
    · (repeat' first | exact trivial | exact rfl | refine And.intro ?_ ?_)
      exact (wrap_nat k (by omega)).symm
    · (repeat' first | exact trivial | exact rfl | refine And.intro ?_ ?_)
  · have hkl := of_decide_eq_false (show decide ((k : Int) < (l.length : Int)) = false from g)
    have hkl : k = l.length := by omega
    subst hkl
    intro _; refine ⟨fun g => ?_, fun g => ?_⟩
    · have g := of_decide_eq_true (show decide ((l.length : Int) ≥ 1) = true from g)
      intro _
      refine ⟨_, .inr rfl, ?_, rfl⟩
      rw [vend hmk]
      by_cases e : l.length ≤ 64
      · rw [decide_eq_true (show (l.length : Int) ≤ 64 by omega), decide_eq_true (show 1 ≤ l.length ∧ l.length ≤ 64 by omega)]
      · rw [decide_eq_false (show ¬ (l.length : Int) ≤ 64 by omega), decide_eq_false (show ¬ (1 ≤ l.length ∧ l.length ≤ 64) by omega)]
    · have g := of_decide_eq_false (show decide ((l.length : Int) ≥ 1) = false from g)
      intro _
      exact ⟨false, .inl rfl, by rw [vend hmk, decide_eq_false (show ¬ (1 ≤ l.length ∧ l.length ≤ 64) by omega)], rfl⟩
/-! lists by their places -/
def tab (n : Nat) (f : Nat → Int) : List Int := (List.range n).map f
theorem tab_len (n : Nat) (f : Nat → Int) : List.length (tab n f) = n := by simp [tab]
theorem tab_get {n : Nat} (f : Nat → Int) {i : Nat} (h : i < n) : (tab n f).getD i 0 = f i := by
  unfold tab; rw [List.getD_eq_getElem?_getD, List.getElem?_map, List.getElem?_range h]; rfl
theorem tab_ext {n : Nat} {f g : Nat → Int} (h : ∀ i, i < n → f i = g i) : tab n f = tab n g := by
  unfold tab; exact List.map_congr_left (fun i hi => h i (List.mem_range.1 hi))
theorem tab_set {n : Nat} (f : Nat → Int) (k : Nat) (v : Int) : (tab n f).set k v = tab n (fun i => if i = k then v else f i) := by
  unfold tab
  refine List.ext_getElem (by simp) (fun i h1 h2 => ?_)
  rw [List.getElem_set]
  simp only [List.getElem_map, List.getElem_range]
  by_cases e : k = i
  · rw [if_pos e, if_pos e.symm]
  · rw [if_neg e, if_neg (fun h => e h.symm)]
theorem tab_zero (n : Nat) : List.replicate n 0 = tab n (fun _ => 0) := by
  unfold tab
  refine List.ext_getElem (by simp) (fun i h1 h2 => ?_)
  simp
theorem tab_app (k : Nat) (f : Nat → Int) : tab (k + 1) f = tab k f ++ [f k] := by
  unfold tab; rw [List.range_succ, List.map_append]; rfl
theorem tab_of (l : List Int) : l = tab l.length (fun i => l.getD i 0) := by
  unfold tab
  refine List.ext_getElem (by simp) (fun i h1 h2 => ?_)
  simp [List.getD_eq_getElem?_getD, h1]
/-- SameInts -/
theorem same_all (a b : List Int) (ha : a.length ≤ 9223372036854775807) (hb : b.length ≤ 9223372036854775807) : SemF Try.prog 29 [.slc 0 1 0 a.length, .slc 1 1 0 b.length] ⟨2, 2, [(0, .arr [.int .i64] .rd (.ints a)), (1, .arr [.int .i64] .rd (.ints b))]⟩
    (fun v _ => v = .bool (decide (a = b)) ∧ nameless v = true) := by
  refine enter tt_ok Try.func29 (nt := 26) (cd := body Try.f29) rfl rfl rfl rfl ?_
  intro _; refine ⟨fun g => ?_, fun g => ?_⟩
  · intro _
    refine ⟨?_, rfl⟩
    have g : ((a.length : Int) != (b.length : Int)) = true := g
    have : a ≠ b := fun e => by subst e; simp at g
    rw [decide_eq_false this]
  have hab : a.length = b.length := by
    have g : ((a.length : Int) != (b.length : Int)) = false := g
    have g2 := g; simp at g2; omega
  intro _
  refine loop2 tt_ok [5] [] 2 (fun k : { k : Nat // k ≤ a.length ∧ ∀ i, i < k → a.getD i 0 = b.getD i 0 } => [(5, .int .i64 k)]) (fun _ => []) (fun k => a.length - k) ⟨0, by omega, fun i h => by omega⟩ ?_
  intro _
  refine ⟨⟨th [] 2, rfl, rfl, rfl, rfl, rfl, rfl, ?_, ?_⟩, ?_⟩
  · (repeat' first | exact trivial | exact rfl | refine And.intro ?_ ?_)
  · (repeat' first | exact trivial | exact rfl | refine And.intro ?_ ?_)
  · intro ⟨k, hk, hmk⟩
    intro _; refine ⟨fun g => ?_, fun g => ?_⟩
    · have hkl : k < a.length := by simp at g; omega
      have e0 : 0 + ((k : Int)).toNat = k := by omega
      intro _; refine ⟨by simp; omega, ?_⟩
      intro _; refine ⟨by simp [AC.len]; omega, ?_⟩
      intro _; refine ⟨by simp; omega, ?_⟩
      intro _; refine ⟨by simp [AC.len]; omega, ?_⟩
      intro _; refine ⟨by kernel_rfl, ?_⟩
      intro _; refine ⟨fun g2 => ?_, fun g2 => ?_⟩
      · have g2 : (a.getD (0 + ((k : Int)).toNat) 0 != b.getD (0 + ((k : Int)).toNat) 0) = true := g2
        rw [e0] at g2
        intro _
        refine ⟨?_, rfl⟩
        have : a ≠ b := fun e => by subst e; simp at g2
        rw [decide_eq_false this]
      · have g2 : (a.getD (0 + ((k : Int)).toNat) 0 != b.getD (0 + ((k : Int)).toNat) 0) = false := g2
        rw [e0] at g2
        refine ⟨⟨k + 1, by omega, fun i hi => ?_⟩, by simp; omega, th [] 2, rfl, rfl, rfl, rfl, rfl, rfl, ?_, ?_⟩
        · by_cases e : i = k
          · subst e; simpa using g2
          · exact hmk i (by omega)
        · (repeat' first | exact trivial | exact rfl | refine And.intro ?_ ?_)
          exact (wrap_nat k (by omega)).symm
        · (repeat' first | exact trivial | exact rfl | refine And.intro ?_ ?_)
    · have hkl : k = a.length := by simp at g; omega
      subst hkl
      intro _
      refine ⟨?_, rfl⟩
      have : a = b := by
        refine List.ext_getElem hab (fun i h1 h2 => ?_)
        have := hmk i h1
        rw [List.getD_eq_getElem?_getD, List.getD_eq_getElem?_getD, List.getElem?_eq_getElem h1, List.getElem?_eq_getElem h2] at this
        exact this
      rw [decide_eq_true this]
/-! where tracks begin -/
def Wd (w : List Int) (i : Nat) : Prop := 0 ≤ w.getD i 0 ∧ w.getD i 0 ≤ 1000000
instance decWd (w : List Int) (i : Nat) : Decidable (Wd w i) := inferInstanceAs (Decidable (_ ∧ _))
def sp (w : List Int) (g : Int) : Nat → Int
  | 0 => 0
  | k + 1 => sp w g k + (w.getD k 0 + g)
def SOk (w : List Int) (g : Int) : Prop := (1 ≤ w.length ∧ w.length ≤ 64) ∧ (0 ≤ g ∧ g ≤ 100000) ∧ ∀ i, i < w.length → Wd w i
instance decSOk (w : List Int) (g : Int) : Decidable (SOk w g) := inferInstanceAs (Decidable (_ ∧ _))
def sr (w : List Int) (g : Int) : List Int × Int := if SOk w g then (tab w.length (sp w g), 0) else ([], 1)
theorem sp_bd {w : List Int} {g : Int} (hg : 0 ≤ g ∧ g ≤ 100000) : ∀ k, k ≤ 64 → (∀ i, i < k → Wd w i) → 0 ≤ sp w g k ∧ sp w g k ≤ k * 1100000
  | 0, _, _ => ⟨Int.le_refl _, by simp [sp]⟩
  | k + 1, hk, h => by
    obtain ⟨a, b⟩ := sp_bd hg k (by omega) (fun i hi => h i (by omega))
    obtain ⟨c, d⟩ := h k (by omega)
    simp only [sp]
    omega
def SQ (w : List Int) (g : Int) : V → H → Prop := fun v h' => v = .tup [.grw 1 (sr w g).1.length, .int .i64 (sr w g).2] ∧ h' = ⟨2, 1, [(1, .arr [.int .i64] .own (.ints (sr w g).1))]⟩
def RSQ (w : List Int) (g : Int) : V → H → Prop := fun v h' => v = .tup [.grw 1 (sr w g).1.length, .int .i64 (sr w g).2] ∧ h' = ⟨2, 1, [(1, .arr [.int .i64] .grow (.ints (sr w g).1))]⟩
abbrev WIdx (w : List Int) := { k : Nat // k ≤ w.length ∧ ∀ i, i < k → Wd w i }
theorem widx_succ {w : List Int} {k : Nat} (hm : ∀ i, i < k → Wd w i) (h : Wd w k) : ∀ i, i < k + 1 → Wd w i := fun i hi => by
  by_cases e : i = k
  · subst e; exact h
  · exact hm i (by omega)
theorem starts_ok (w : List Int) (gap : Int) (hl : w.length ≤ 9223372036854775807) : SemF Try.prog 30 [.slc 0 1 0 w.length, .int .i64 gap] ⟨1, 1, [(0, .arr [.int .i64] .rd (.ints w))]⟩ (SQ w gap) := by
  refine SemF.ret ?_
  refine enter tt_ok Try.func30 (nt := 47) (cd := body Try.f30) rfl rfl rfl rfl ?_
  have bad : ¬ SOk w gap → ∀ nx hx, Nat.ble 1 nx = true → Ret 1 (SQ w gap) (.tup [.nils, .int .i64 1]) ⟨nx, 1, hx⟩ := fun he nx hx hn => by
    have e1 : sr w gap = ([], 1) := by unfold sr; rw [if_neg he]
    refine ⟨[(1, none)], .tup [.grw 1 0, .int .i64 1], ⟨2, 1, [(1, .arr [.int .i64] .own (.ints []))]⟩, rfl, rfl, rfl, rfl, ?_, ?_, ?_, ?_⟩
    · (repeat' first | exact trivial | exact rfl | refine And.intro ?_ ?_)
    · (repeat' first | exact trivial | exact rfl | refine And.intro ?_ ?_)
    · rw [e1]; rfl
    · rw [e1]
  intro _; refine ⟨fun g => ?_, fun g => ?_⟩
  · have g := of_decide_eq_true (show decide ((w.length : Int) < 1) = true from g)
    intro _
    exact bad (fun h => by have := h.1; omega) _ _ rfl
  have g1 := of_decide_eq_false (show decide ((w.length : Int) < 1) = false from g)
  intro _; refine ⟨fun g => ?_, fun g => ?_⟩
  · have g := of_decide_eq_true (show decide ((w.length : Int) > 64) = true from g)
    intro _
    exact bad (fun h => by have := h.1; omega) _ _ rfl
  have g2 := of_decide_eq_false (show decide ((w.length : Int) > 64) = false from g)
  intro _
  refine gap_test _ _ _ ?_
  intro _; refine ⟨fun g => ?_, fun g => ?_⟩
  · have g : (!decide (0 ≤ gap ∧ gap ≤ 100000)) = true := g
    rw [Bool.not_eq_true'] at g
    have g := of_decide_eq_false g
    intro _
    exact bad (fun h => g h.2.1) _ _ rfl
  have g : (!decide (0 ≤ gap ∧ gap ≤ 100000)) = false := g
  rw [Bool.not_eq_false'] at g
  have g3 := of_decide_eq_true g
  intro _; refine ⟨⟨by omega, by omega, by omega⟩, ?_⟩
  intro _; refine ⟨rfl, ?_⟩
  intro _
  refine loop2 tt_ok [28, 7] [1] 2 (fun k : WIdx w => [(28, .int .i64 (k : Nat)), (7, .int .i64 (sp w gap k))]) (fun k => [(1, .arr [.int .i64] .own (.ints (tab w.length (fun i => if i < (k : Nat) then sp w gap i else 0))))]) (fun k => w.length - k) ⟨0, by omega, fun i h => by omega⟩ ?_
  intro _
  refine ⟨⟨th [] 2, rfl, rfl, rfl, rfl, rfl, rfl, ?_, ?_⟩, ?_⟩
  · (repeat' first | exact trivial | exact rfl | refine And.intro ?_ ?_)
  · (repeat' first | exact trivial | exact rfl | refine And.intro ?_ ?_)
    have : (w.length : Int).toNat = w.length := by omega
    show tab w.length _ = List.replicate (w.length : Int).toNat 0
    rw [this, tab_zero]
    exact tab_ext (fun i _ => if_neg (by simp))
  intro ⟨k, hk, hmk⟩
  have z : 0 + k = k := Nat.zero_add k
  intro _; refine ⟨fun g => ?_, fun g => ?_⟩
  · have hkl := of_decide_eq_true (show decide ((k : Int) < (w.length : Int)) = true from g)
    have i1 : 0 ≤ (k : Int) ∧ (k : Int) < (w.length : Int) := by omega
    intro _; refine ⟨i1, ?_⟩
    intro _; refine ⟨show 0 + (k : Int).toNat < w.length by omega, ?_⟩
    intro _
    refine len_test _ _ _ ?_
    intro _; refine ⟨fun g => ?_, fun g => ?_⟩
    · have g : (!decide (0 ≤ w.getD (0 + k) 0 ∧ w.getD (0 + k) 0 ≤ 1000000)) = true := g
      rw [z, Bool.not_eq_true'] at g
      have g := of_decide_eq_false g
      intro _
      exact bad (fun h => g (h.2.2 k (by omega))) _ _ rfl
    have g : (!decide (0 ≤ w.getD (0 + k) 0 ∧ w.getD (0 + k) 0 ≤ 1000000)) = false := g
    rw [z, Bool.not_eq_false'] at g
    have g4 := of_decide_eq_true g
    intro _; refine ⟨show 0 ≤ (k : Int) ∧ (k : Int) < ((w.length : Int).toNat : Int) by omega, ?_⟩
    intro _; refine ⟨show (k : Int).toNat < List.length (tab w.length _) by rw [tab_len]; omega, ?_⟩
    obtain ⟨b1, b2⟩ := sp_bd g3 k (by omega) hmk
    refine ⟨⟨k + 1, by omega, widx_succ hmk g4⟩, by simp; omega, th [] 2, rfl, rfl, rfl, rfl, rfl, rfl, ?_, ?_⟩
    · (repeat' first | exact trivial | exact rfl | refine And.intro ?_ ?_)
      · exact (wrap_nat k (by omega)).symm
      · show sp w gap k + (w.getD k 0 + gap) = IntKind.i64.wrap (sp w gap k + IntKind.i64.wrap (w.getD (0 + k) 0 + gap))
        rw [z, wrapS (w.getD k 0 + gap) ⟨by omega, by omega⟩, wrapS _ ⟨by omega, by omega⟩]
    · (repeat' first | exact trivial | exact rfl | refine And.intro ?_ ?_)
      show tab w.length _ = (tab w.length _).set k (sp w gap k)
      rw [tab_set]
      refine tab_ext (fun i _ => ?_)
      by_cases e : i = k
      · subst e; simp
      · by_cases e2 : i < k
        · rw [if_pos (show i < k + 1 by omega), if_neg e, if_pos e2]
        · rw [if_neg (show ¬ i < k + 1 by omega), if_neg e, if_neg e2]
  · have hkl := of_decide_eq_false (show decide ((k : Int) < (w.length : Int)) = false from g)
    have hkl : k = w.length := by omega
    subst hkl
    have e1 : sr w gap = (tab w.length (sp w gap), 0) := by unfold sr; rw [if_pos ⟨by omega, g3, hmk⟩]
    intro _
    refine ⟨[(1, some 1)], .tup [.grw 1 (sr w gap).1.length, .int .i64 (sr w gap).2], ⟨2, 1, [(1, .arr [.int .i64] .own (.ints (sr w gap).1))]⟩, rfl, rfl, rfl, rfl, ?_, ?_, ⟨rfl, rfl⟩⟩
    · rw [e1]
      (repeat' first | exact trivial | exact rfl | refine And.intro ?_ ?_)
      show List.length (tab w.length _) = (w.length : Int).toNat
      rw [tab_len]; omega
    · rw [e1]
      (repeat' first | exact trivial | exact rfl | refine And.intro ?_ ?_)
      exact tab_ext (fun i hi => (if_pos hi).symm)
theorem rstarts_ok (w : List Int) (gap : Int) (hl : w.length ≤ 9223372036854775807) : SemF Try.prog 31 [.slc 0 1 0 w.length, .int .i64 gap] ⟨1, 1, [(0, .arr [.int .i64] .rd (.ints w))]⟩ (RSQ w gap) := by
  refine SemF.ret ?_
  refine enter tt_ok Try.func31 (nt := 51) (cd := body Try.f31) rfl rfl rfl rfl ?_
  have bad : ¬ SOk w gap → ∀ nx hx, Nat.ble 1 nx = true → Ret 1 (RSQ w gap) (.tup [.nils, .int .i64 1]) ⟨nx, 1, hx⟩ := fun he nx hx hn => by
    have e1 : sr w gap = ([], 1) := by unfold sr; rw [if_neg he]
    refine ⟨[(1, none)], .tup [.grw 1 0, .int .i64 1], ⟨2, 1, [(1, .arr [.int .i64] .grow (.ints []))]⟩, rfl, rfl, rfl, rfl, ?_, ?_, ?_, ?_⟩
    · (repeat' first | exact trivial | exact rfl | refine And.intro ?_ ?_)
    · (repeat' first | exact trivial | exact rfl | refine And.intro ?_ ?_)
    · rw [e1]; rfl
    · rw [e1]
  intro _
  refine in_test _ _ _ _ _ ?_
  intro _; refine ⟨fun g => ?_, fun g => ?_⟩
  · have g : (!decide (0 ≤ gap ∧ gap ≤ 100000)) = true := g
    rw [Bool.not_eq_true'] at g
    have g := of_decide_eq_false g
    intro _
    exact bad (fun h => g h.2.1) _ _ rfl
  have g : (!decide (0 ≤ gap ∧ gap ≤ 100000)) = false := g
  rw [Bool.not_eq_false'] at g
  have g3 := of_decide_eq_true g
  intro _; refine ⟨fun g => ?_, fun g => ?_⟩
  · have g := of_decide_eq_true (show decide ((w.length : Int) < 1) = true from g)
    intro _
    exact bad (fun h => by have := h.1; omega) _ _ rfl
  have g1 := of_decide_eq_false (show decide ((w.length : Int) < 1) = false from g)
  intro _; refine ⟨fun g => ?_, fun g => ?_⟩
  · have g := of_decide_eq_true (show decide ((w.length : Int) > 64) = true from g)
    intro _
    exact bad (fun h => by have := h.1; omega) _ _ rfl
  have g2 := of_decide_eq_false (show decide ((w.length : Int) > 64) = false from g)
  intro _
  refine loop2 tt_ok [9, 8, 7] [1] 2 (fun k : WIdx w => [(9, .int .i64 (k : Nat)), (8, .int .i64 (sp w gap k)), (7, .grw 1 (k : Nat))]) (fun k => [(1, .arr [.int .i64] .grow (.ints (tab (k : Nat) (sp w gap))))]) (fun k => w.length - k) ⟨0, by omega, fun i h => by omega⟩ ?_
  intro _
  refine ⟨⟨th [(1, none)] 2, rfl, rfl, rfl, rfl, rfl, rfl, ?_, ?_⟩, ?_⟩
  · (repeat' first | exact trivial | exact rfl | refine And.intro ?_ ?_)
  · (repeat' first | exact trivial | exact rfl | refine And.intro ?_ ?_)
  intro ⟨k, hk, hmk⟩
  have z : 0 + k = k := Nat.zero_add k
  intro _; refine ⟨fun g => ?_, fun g => ?_⟩
  · have hkl := of_decide_eq_true (show decide ((k : Int) < (w.length : Int)) = true from g)
    have i1 : 0 ≤ (k : Int) ∧ (k : Int) < (w.length : Int) := by omega
    have i2 : 0 + (k : Int).toNat < w.length := by omega
    intro _; refine ⟨i1, ?_⟩
    intro _; refine ⟨i2, ?_⟩
    intro _
    refine in_test _ _ _ _ _ ?_
    intro _; refine ⟨fun g => ?_, fun g => ?_⟩
    · have g : (!decide (0 ≤ w.getD (0 + k) 0 ∧ w.getD (0 + k) 0 ≤ 1000000)) = true := g
      rw [z, Bool.not_eq_true'] at g
      have g := of_decide_eq_false g
      intro _
      exact bad (fun h => g (h.2.2 k (by omega))) _ _ rfl
    have g : (!decide (0 ≤ w.getD (0 + k) 0 ∧ w.getD (0 + k) 0 ≤ 1000000)) = false := g
    rw [z, Bool.not_eq_false'] at g
    have g4 := of_decide_eq_true g
    intro _; refine ⟨rfl, ?_⟩
    intro _; refine ⟨fun g3 => by simp at g3, fun _ => ?_⟩
    refine ⟨⟨(tab_len k _).symm, show k + 1 ≤ 4611686018427387904 by omega, show (k + 1) * 8 ≤ 70368744177664 by omega⟩, ?_⟩
    intro _; refine ⟨i1, ?_⟩
    intro _; refine ⟨i2, ?_⟩
    obtain ⟨b1, b2⟩ := sp_bd g3 k (by omega) hmk
    have hww := g4
    refine ⟨⟨k + 1, by omega, widx_succ hmk g4⟩, by simp; omega, th [(1, some 3)] 2, rfl, rfl, rfl, rfl, rfl, rfl, ?_, ?_⟩
    · (repeat' first | exact trivial | exact rfl | refine And.intro ?_ ?_)
      · exact (wrap_nat k (by omega)).symm
      · show sp w gap k + (w.getD k 0 + gap) = IntKind.i64.wrap (IntKind.i64.wrap (sp w gap k + w.getD (0 + k) 0) + gap)
        rw [z, wrapS (sp w gap k + w.getD k 0) ⟨by omega, by omega⟩, wrapS _ ⟨by omega, by omega⟩]
        omega
    · (repeat' first | exact trivial | exact rfl | refine And.intro ?_ ?_)
      exact tab_app k _
  · have hkl := of_decide_eq_false (show decide ((k : Int) < (w.length : Int)) = false from g)
    have hkl : k = w.length := by omega
    subst hkl
    have e1 : sr w gap = (tab w.length (sp w gap), 0) := by unfold sr; rw [if_pos ⟨by omega, g3, hmk⟩]
    intro _
    refine ⟨[(1, some 1)], .tup [.grw 1 (sr w gap).1.length, .int .i64 (sr w gap).2], ⟨2, 1, [(1, .arr [.int .i64] .grow (.ints (sr w gap).1))]⟩, rfl, rfl, rfl, rfl, ?_, ?_, ⟨rfl, rfl⟩⟩
    · rw [e1]
      (repeat' first | exact trivial | exact rfl | refine And.intro ?_ ?_)
      exact tab_len _ _
    · rw [e1]
      (repeat' first | exact trivial | exact rfl | refine And.intro ?_ ?_)
/-! what is shared out -/
structure St where
  o : Nat → Bool
  p : Nat → Int
  f : Int
def pre (l : Rows) (o : Nat → Bool) : Nat → Int
  | 0 => 0
  | k + 1 => pre l o k + (if o k = true then gr l k else 0)
def al (l : Rows) (o : Nat → Bool) : Int := pre l o l.length
def pt (l : Rows) (o : Nat → Bool) (f : Int) (i : Nat) : Int := (f * pre l o (i + 1)).tdiv (al l o) - (f * pre l o i).tdiv (al l o)
def ct (l : Rows) (o : Nat → Bool) (f : Int) (i : Nat) : Bool := o i && (decide (mx l i ≠ 0) && decide (ba l i + pt l o f i > mx l i))
def cs (l : Rows) (o : Nat → Bool) (f : Int) : Nat → Int
  | 0 => 0
  | k + 1 => cs l o f k + (if ct l o f k = true then mx l k - ba l k else 0)
def op (o : Nat → Bool) (n : Nat) : List Nat := (List.range n).filter o
def step (l : Rows) (s : St) : St := ⟨fun i => s.o i && !ct l s.o s.f i, fun i => if ct l s.o s.f i = true then mx l i - ba l i else s.p i, s.f - cs l s.o s.f l.length⟩
def lastP (l : Rows) (s : St) : Nat → Int := fun i => if s.o i = true then pt l s.o s.f i else s.p i
def fin (l : Rows) : Nat → St → Nat → Int
  | 0, s => s.p
  | k + 1, s => if op s.o l.length = [] then s.p else if op (ct l s.o s.f) l.length = [] then lastP l s else fin l k (step l s)
structure Inv (l : Rows) (s : St) : Prop where
  v : Vd l
  f0 : 0 ≤ s.f
  f1 : s.f ≤ 1000000
  og : ∀ i, i < l.length → s.o i = true → 0 < gr l i
  p0 : ∀ i, i < l.length → 0 ≤ s.p i ∧ s.p i ≤ 1000000
theorem mem_op {o : Nat → Bool} {n i : Nat} : i ∈ op o n ↔ i < n ∧ o i = true := by simp [op]
theorem pre_bd {l : Rows} (hv : Vd l) (o : Nat → Bool) : ∀ k, k ≤ l.length → 0 ≤ pre l o k ∧ pre l o k ≤ k * 1000
  | 0, _ => ⟨Int.le_refl _, by simp [pre]⟩
  | k + 1, hk => by
    obtain ⟨a, b⟩ := pre_bd hv o k (by omega)
    have := (hv.2 k (by omega)).2.1
    simp only [pre]
    split <;> omega
theorem pre_mono {l : Rows} (hv : Vd l) (o : Nat → Bool) {i : Nat} : ∀ {k : Nat}, k ≤ l.length → i ≤ k → pre l o i ≤ pre l o k
  | 0, _, h => by have : i = 0 := by omega
                  subst this; exact Int.le_refl _
  | k + 1, hk, h => by
    rcases Nat.lt_or_ge k i with e | e
    · have : i = k + 1 := by omega
      subst this; exact Int.le_refl _
    · have h1 := pre_mono hv o (k := k) (by omega) e
      have := (hv.2 k (by omega)).2.1
      simp only [pre]
      split <;> omega
theorem al_pos {l : Rows} {s : St} (h : Inv l s) (hne : op s.o l.length ≠ []) : 0 < al l s.o := by
  obtain ⟨i, hi⟩ := List.exists_mem_of_ne_nil _ hne
  rw [mem_op] at hi
  have h1 := pre_mono h.v s.o (k := l.length) (i := i + 1) (Nat.le_refl _) (by omega)
  have h2 := pre_bd h.v s.o i (by omega)
  have h3 := h.og i hi.1 hi.2
  unfold al
  have : pre l s.o (i + 1) = pre l s.o i + gr l i := by simp only [pre]; rw [if_pos hi.2]
  omega
theorem td_mono {a b c : Int} (h0 : 0 ≤ a) (h : a ≤ b) (hc : 0 < c) : a.tdiv c ≤ b.tdiv c := by
  rw [Int.tdiv_eq_ediv_of_nonneg h0, Int.tdiv_eq_ediv_of_nonneg (by omega)]
  exact Int.ediv_le_ediv hc h
theorem td_nn {a c : Int} (h0 : 0 ≤ a) (hc : 0 < c) : 0 ≤ a.tdiv c := by
  rw [Int.tdiv_eq_ediv_of_nonneg h0]; exact Int.ediv_nonneg h0 (by omega)
theorem fpre_nn {l : Rows} {s : St} (h : Inv l s) {k : Nat} (hk : k ≤ l.length) : 0 ≤ s.f * pre l s.o k ∧ s.f * pre l s.o k ≤ 64000000000 := by
  obtain ⟨a, b⟩ := pre_bd h.v s.o k hk
  have h64 := h.v.1.2
  refine ⟨Int.mul_nonneg h.f0 a, ?_⟩
  have h1 : s.f * pre l s.o k ≤ 1000000 * pre l s.o k := Int.mul_le_mul_of_nonneg_right h.f1 a
  omega
theorem tot {l : Rows} {s : St} (h : Inv l s) (hp : 0 < al l s.o) : (s.f * pre l s.o l.length).tdiv (al l s.o) = s.f := by
  rw [Int.tdiv_eq_ediv_of_nonneg (fpre_nn h (Nat.le_refl _)).1]
  have hp2 : 0 < pre l s.o l.length := hp
  exact Int.mul_ediv_cancel _ (by omega)
theorem pt_bd {l : Rows} {s : St} (h : Inv l s) (hp : 0 < al l s.o) {i : Nat} (hi : i < l.length) : 0 ≤ pt l s.o s.f i ∧ pt l s.o s.f i ≤ s.f := by
  have h1 := pre_mono h.v s.o (k := i + 1) (i := i) (by omega) (by omega)
  have h2 := pre_mono h.v s.o (k := l.length) (i := i + 1) (by omega) (by omega)
  have a := fpre_nn h (k := i) (by omega)
  have b := fpre_nn h (k := i + 1) (by omega)
  have c1 := td_mono a.1 (Int.mul_le_mul_of_nonneg_left h1 h.f0) hp
  have c2 := td_mono b.1 (Int.mul_le_mul_of_nonneg_left h2 h.f0) hp
  have c3 := td_nn a.1 hp
  rw [tot h hp] at c2
  unfold pt
  omega
theorem ct_open {l : Rows} {o : Nat → Bool} {f : Int} {i : Nat} (h : ct l o f i = true) : o i = true ∧ mx l i ≠ 0 ∧ ba l i + pt l o f i > mx l i := by
  simp only [ct, Bool.and_eq_true, decide_eq_true_eq] at h
  exact ⟨h.1, h.2.1, h.2.2⟩
theorem cs_le {l : Rows} {s : St} (h : Inv l s) (hp : 0 < al l s.o) : ∀ k, k ≤ l.length → 0 ≤ cs l s.o s.f k ∧ cs l s.o s.f k ≤ (s.f * pre l s.o k).tdiv (al l s.o)
  | 0, _ => by simp [cs, pre]
  | k + 1, hk => by
    obtain ⟨a, b⟩ := cs_le h hp k (by omega)
    have h1 := pt_bd h hp (i := k) (by omega)
    have h2 : pt l s.o s.f k = (s.f * pre l s.o (k + 1)).tdiv (al l s.o) - (s.f * pre l s.o k).tdiv (al l s.o) := rfl
    simp only [cs]
    split
    · rename_i hc
      obtain ⟨_, c1, c2⟩ := ct_open hc
      have := (h.v.2 k (by omega)).2.2 c1
      omega
    · omega
theorem cs_f {l : Rows} {s : St} (h : Inv l s) (hp : 0 < al l s.o) {k : Nat} (hk : k ≤ l.length) : 0 ≤ cs l s.o s.f k ∧ cs l s.o s.f k ≤ s.f := by
  obtain ⟨a, b⟩ := cs_le h hp k hk
  have h2 := pre_mono h.v s.o (k := l.length) (i := k) (by omega) hk
  have c2 := td_mono (fpre_nn h hk).1 (Int.mul_le_mul_of_nonneg_left h2 h.f0) hp
  rw [tot h hp] at c2
  omega
theorem Inv.step {l : Rows} {s : St} (h : Inv l s) (hp : 0 < al l s.o) : Inv l (step l s) := by
  have hc := cs_f h hp (k := l.length) (Nat.le_refl _)
  have hf := h.f1
  refine ⟨h.v, by show 0 ≤ s.f - _; omega, by show s.f - _ ≤ _; omega, fun i hi ho => h.og i hi ?_, fun i hi => ?_⟩
  · have ho : (s.o i && !ct l s.o s.f i) = true := ho
    simp only [Bool.and_eq_true] at ho
    exact ho.1
  · show 0 ≤ (if ct l s.o s.f i = true then mx l i - ba l i else s.p i) ∧ (if ct l s.o s.f i = true then mx l i - ba l i else s.p i) ≤ 1000000
    split
    · rename_i hc
      obtain ⟨_, c1, c2⟩ := ct_open hc
      have h1 := (h.v.2 i hi).2.2 c1
      have h2 := (h.v.2 i hi).1
      omega
    · exact h.p0 i hi
theorem op_step (l : Rows) (s : St) : op (step l s).o l.length = (op s.o l.length).filter (fun i => !ct l s.o s.f i) := by
  unfold op; rw [List.filter_filter]
  congr 1
  funext i
  show (s.o i && !ct l s.o s.f i) = (!ct l s.o s.f i && s.o i)
  exact Bool.and_comm _ _
theorem cnt_step (l : Rows) (s : St) (hc : op (ct l s.o s.f) l.length ≠ []) : (op (step l s).o l.length).length < (op s.o l.length).length := by
  rw [op_step]
  obtain ⟨i, hi⟩ := List.exists_mem_of_ne_nil _ hc
  rw [mem_op] at hi
  rw [List.length_filter_lt_length_iff_exists]
  exact ⟨i, mem_op.2 ⟨hi.1, (ct_open hi.2).1⟩, by rw [hi.2]; decide⟩
/-! maps from places -/
def em (L : List Nat) : List (Int × List D) := L.map fun (i : Nat) => ((i : Int), [D.b true])
theorem em_find : ∀ (L : List Nat) (i : Nat), ((mfind (em L) (i : Int)).getD [D.b false]).getD 0 (.n 0) = D.b (decide (i ∈ L))
  | [], i => by simp [em, mfind]
  | j :: L, i => by
    have ih := em_find L i
    simp only [em, List.map_cons, mfind] at ih ⊢
    by_cases e : j = i
    · subst e; simp
    · rw [if_neg (by omega), ih]
      congr 1
      have : (i ∈ j :: L) ↔ i ∈ L := by simp; omega
      simp [this]
theorem em_del : ∀ (L : List Nat) (i : Nat), L.Nodup → mdel (em L) (i : Int) = em (L.filter (fun j => !(decide (j = i))))
  | [], i, _ => rfl
  | j :: L, i, h => by
    have h1 := List.nodup_cons.1 h
    have ih := em_del L i h1.2
    simp only [em, List.map_cons, mdel] at ih ⊢
    by_cases e : j = i
    · subst e
      rw [if_pos rfl, List.filter_cons_of_neg (by simp)]
      congr 1
      symm
      rw [List.filter_eq_self]
      intro a ha
      have : a ≠ j := fun e => h1.1 (e ▸ ha)
      simp [this]
    · rw [if_neg (by omega), List.filter_cons_of_pos (by simp [e]), ih]
      rfl
theorem em_put : ∀ (L : List Nat) (i : Nat), i ∉ L → mput (em L) (i : Int) [D.b true] = em (L ++ [i])
  | [], i, _ => rfl
  | j :: L, i, h => by
    have h1 : j ≠ i ∧ i ∉ L := ⟨fun e => h (by simp [e]), fun e => h (by simp [e])⟩
    have ih := em_put L i h1.2
    simp only [em, List.map_cons, mput, List.cons_append] at ih ⊢
    rw [if_neg (by omega), ih]
theorem op_nodup (o : Nat → Bool) (n : Nat) : (op o n).Nodup := by
  unfold op; exact List.Nodup.sublist List.filter_sublist List.nodup_range
theorem op_succ (o : Nat → Bool) (k : Nat) : op o (k + 1) = if o k = true then op o k ++ [k] else op o k := by
  unfold op; rw [List.range_succ, List.filter_append]
  split
  · rename_i h; rw [List.filter_cons_of_pos h]; rfl
  · rename_i h; rw [List.filter_cons_of_neg h]; simp
theorem op_notin (o : Nat → Bool) (k : Nat) : k ∉ op o k := by rw [mem_op]; omega
theorem em_len (L : List Nat) : (em L).length = L.length := by simp [em]
/-- the sum of Grow -/
theorem growth_ok (l : Rows) (hv : Vd l) (o : Nat → Bool) : SemF Try.prog 49 [.slc 0 3 0 l.length, .mp 1] ⟨2, 2, [(0, .arr [.int .i64, .int .i64, .int .i64] .rd (.recs l)), (1, .map .i64 [.bool] false (em (op o l.length)))]⟩ (fun v _ => v = .int .i64 (al l o) ∧ nameless v = true) := by
  refine enter tt_ok Try.func49 (nt := 24) (cd := body Try.f49) rfl rfl rfl rfl ?_
  have h64 := hv.1.2
  intro _
  refine loop2 tt_ok [10, 5] [] 2 (fun k : Fin (l.length + 1) => [(10, .int .i64 (k : Nat)), (5, .int .i64 (pre l o k))]) (fun _ => []) (fun k => l.length - k) ⟨0, by omega⟩ ?_
  intro _
  refine ⟨⟨th [] 2, rfl, rfl, rfl, rfl, rfl, rfl, ?_, ?_⟩, ?_⟩
  · (repeat' first | exact trivial | exact rfl | refine And.intro ?_ ?_)
  · (repeat' first | exact trivial | exact rfl | refine And.intro ?_ ?_)
  intro ⟨k, hk⟩
  have z : 0 + k = k := Nat.zero_add k
  intro _; refine ⟨fun g => ?_, fun g => ?_⟩
  · have hkl := of_decide_eq_true (show decide ((k : Int) < (l.length : Int)) = true from g)
    intro _; refine ⟨show 0 ≤ (k : Int) ∧ (k : Int) < (l.length : Int) by omega, ?_⟩
    intro _; refine ⟨show 0 + (k : Int).toNat < l.length by omega, ?_⟩
    have hb := pre_bd hv o k (by omega)
    have hg := (hv.2 k (by omega)).2.1
    have eo : (((mfind (em (op o l.length)) (k : Int)).getD [D.b false]).getD 0 (.n 0)).bool = o k := by
      rw [em_find]
      show decide (k ∈ op o l.length) = o k
      have : (k ∈ op o l.length) ↔ o k = true := by rw [mem_op]; exact ⟨fun h => h.2, fun h => ⟨by omega, h⟩⟩
      by_cases e : o k = true
      · rw [e]; exact decide_eq_true (this.2 e)
      · rw [decide_eq_false (fun h => e (this.1 h))]; simpa using e
    intro _; refine ⟨fun g => ?_, fun g => ?_⟩
    · have g : (((mfind (em (op o l.length)) (k : Int)).getD [D.b false]).getD 0 (.n 0)).bool = true := g
      rw [eo] at g
      refine ⟨⟨k + 1, by omega⟩, by simp; omega, th [] 2, rfl, rfl, rfl, rfl, rfl, rfl, ?_, ?_⟩
      · (repeat' first | exact trivial | exact rfl | refine And.intro ?_ ?_)
        · exact (wrap_nat k (by omega)).symm
        · show pre l o (k + 1) = IntKind.i64.wrap (pre l o k + gr l (0 + k))
          rw [z, wrapS _ ⟨by omega, by omega⟩]
          simp only [pre]; rw [if_pos g]
      · (repeat' first | exact trivial | exact rfl | refine And.intro ?_ ?_)
    · have g : (((mfind (em (op o l.length)) (k : Int)).getD [D.b false]).getD 0 (.n 0)).bool = false := g
      rw [eo] at g
      refine ⟨⟨k + 1, by omega⟩, by simp; omega, th [] 2, rfl, rfl, rfl, rfl, rfl, rfl, ?_, ?_⟩
      · (repeat' first | exact trivial | exact rfl | refine And.intro ?_ ?_)
        · exact (wrap_nat k (by omega)).symm
        · show pre l o (k + 1) = pre l o k
          simp only [pre]; rw [if_neg (by rw [g]; decide)]; omega
      · (repeat' first | exact trivial | exact rfl | refine And.intro ?_ ?_)
  · have hkl := of_decide_eq_false (show decide ((k : Int) < (l.length : Int)) = false from g)
    have hkl : k = l.length := by omega
    subst hkl
    intro _
    exact ⟨rfl, rfl⟩
def bs (l : Rows) : Nat → Int
  | 0 => 0
  | k + 1 => bs l k + ba l k
def F0 (l : Rows) (sp gp : Int) : Int := max (sp - gp * ((l.length : Int) - 1) - bs l l.length) 0
def s0 (l : Rows) (F : Int) : St := ⟨fun i => decide (0 < gr l i), fun _ => 0, F⟩
def TT (l : Rows) (F : Int) : Nat → Int := fin l l.length (s0 l F)
def ShOk (l : Rows) (sp gp : Int) : Prop := Vd l ∧ (0 ≤ sp ∧ sp ≤ 1000000) ∧ (0 ≤ gp ∧ gp ≤ 100000)
instance decShOk (l : Rows) (sp gp : Int) : Decidable (ShOk l sp gp) := inferInstanceAs (Decidable (_ ∧ _))
def sh (l : Rows) (sp gp : Int) : List Int × Int := if ShOk l sp gp then (tab l.length (fun i => ba l i + TT l (F0 l sp gp) i), 0) else ([], 1)
theorem bs_bd {l : Rows} (hv : Vd l) : ∀ k, k ≤ l.length → 0 ≤ bs l k ∧ bs l k ≤ k * 1000000
  | 0, _ => by simp [bs]
  | k + 1, hk => by
    obtain ⟨a, b⟩ := bs_bd hv k (by omega)
    have := (hv.2 k (by omega)).1
    simp only [bs]
    omega
theorem inv0 {l : Rows} {F : Int} (hv : Vd l) (h0 : 0 ≤ F) (h1 : F ≤ 1000000) : Inv l (s0 l F) :=
  ⟨hv, h0, h1, fun i _ h => of_decide_eq_true h, fun i _ => ⟨Int.le_refl _, by show (0 : Int) ≤ _; omega⟩⟩
theorem op_le (o : Nat → Bool) (n : Nat) : (op o n).length ≤ n := by
  unfold op; exact Nat.le_trans (List.length_filter_le _ _) (by simp)
abbrev ShI (l : Rows) (T : Nat → Int) := { x : St × Nat × (Nat → Int) // Inv l x.1 ∧ (op x.1.o l.length).length ≤ x.2.1 ∧ (∀ i, i < l.length → fin l x.2.1 x.1 i = T i) ∧ ∀ i, i < l.length → x.1.o i = false → x.2.2 i = x.1.p i }
theorem fin_empty {l : Rows} {s : St} (k : Nat) (h : op s.o l.length = []) : fin l k s = s.p := by
  cases k with
  | zero => rfl
  | succ k => simp only [fin]; rw [if_pos h]
theorem fin_last {l : Rows} {s : St} {k : Nat} (h : op s.o l.length ≠ []) (hk : (op s.o l.length).length ≤ k) (hc : op (ct l s.o s.f) l.length = []) : fin l k s = lastP l s := by
  cases k with
  | zero => exact absurd (List.length_eq_zero_iff.1 (by omega)) h
  | succ k => simp only [fin]; rw [if_neg h, if_pos hc]
theorem fin_next {l : Rows} {s : St} {k : Nat} (h : op s.o l.length ≠ []) (hk : (op s.o l.length).length ≤ k) (hc : op (ct l s.o s.f) l.length ≠ []) : ∃ k', k' < k ∧ fin l k s = fin l k' (step l s) ∧ (op (step l s).o l.length).length ≤ k' := by
  cases k with
  | zero => exact absurd (List.length_eq_zero_iff.1 (by omega)) h
  | succ k =>
    refine ⟨k, by omega, ?_, ?_⟩
    · simp only [fin]; rw [if_neg h, if_neg hc]
    · have := cnt_step l s hc; omega
theorem empty_closed {o : Nat → Bool} {n : Nat} (h : op o n = []) : ∀ i, i < n → o i = false := fun i hi => by
  cases e : o i with
  | false => rfl
  | true => have : i ∈ op o n := mem_op.2 ⟨hi, e⟩
            rw [h] at this; cases this
theorem fin_bd {l : Rows} : ∀ (k : Nat) (s : St), Inv l s → ∀ i, i < l.length → 0 ≤ fin l k s i ∧ fin l k s i ≤ 1000000
  | 0, s, h, i, hi => h.p0 i hi
  | k + 1, s, h, i, hi => by
    simp only [fin]
    split
    · exact h.p0 i hi
    · rename_i hne
      have hp := al_pos h hne
      split
      · unfold lastP
        split
        · have := pt_bd h hp hi; have := h.f1; omega
        · exact h.p0 i hi
      · exact fin_bd k (step l s) (h.step hp) i hi
def CI (c : List Nat) : List Int := c.map fun (i : Nat) => (i : Int)
theorem CI_len (c : List Nat) : List.length (CI c) = c.length := by simp [CI]
theorem CI_get (c : List Nat) {j : Nat} (h : j < c.length) : (CI c).getD j 0 = ((c.getD j 0 : Nat) : Int) := by
  simp [CI, List.getD_eq_getElem?_getD, h]
theorem getD_mem {c : List Nat} {j : Nat} (h : j < c.length) : c.getD j 0 ∈ c := by
  rw [List.getD_eq_getElem?_getD, List.getElem?_eq_getElem h]; exact List.getElem_mem h
theorem mem_take_succ {c : List Nat} {j i : Nat} (h : j < c.length) : i ∈ c.take (j + 1) ↔ i ∈ c.take j ∨ i = c.getD j 0 := by
  rw [List.take_succ_eq_append_getElem h]
  have : c.getD j 0 = c[j] := by rw [List.getD_eq_getElem?_getD, List.getElem?_eq_getElem h]; rfl
  rw [this, List.mem_append, List.mem_singleton]
def su (l : Rows) (c : List Nat) : Int := c.foldr (fun i a => (mx l i - ba l i) + a) 0
theorem su_app (l : Rows) (a b : List Nat) : su l (a ++ b) = su l a + su l b := by
  induction a with
  | nil => simp [su]
  | cons x a ih => simp only [su, List.cons_append, List.foldr_cons] at ih ⊢; omega
theorem su_cs (l : Rows) (o : Nat → Bool) (f : Int) : ∀ k, su l (op (ct l o f) k) = cs l o f k
  | 0 => rfl
  | k + 1 => by
    rw [op_succ]
    simp only [cs]
    split
    · rw [su_app, su_cs l o f k]; simp [su]
    · rw [su_cs l o f k]; omega
theorem su_bd {l : Rows} {c : List Nat} (h : ∀ i, i ∈ c → 0 ≤ mx l i - ba l i ∧ mx l i - ba l i ≤ 1000000) : 0 ≤ su l c ∧ su l c ≤ c.length * 1000000 := by
  induction c with
  | nil => simp [su]
  | cons x c ih =>
    have := ih (fun i hi => h i (by simp [hi]))
    have := h x (by simp)
    simp only [su, List.foldr_cons, List.length_cons] at this ih ⊢
    simp only [su] at *
    omega
theorem su_take {l : Rows} {c : List Nat} {j : Nat} (h : j < c.length) : su l (c.take (j + 1)) = su l (c.take j) + (mx l (c.getD j 0) - ba l (c.getD j 0)) := by
  rw [List.take_succ_eq_append_getElem h, su_app]
  have : c.getD j 0 = c[j] := by rw [List.getD_eq_getElem?_getD, List.getElem?_eq_getElem h]; rfl
  rw [this]; simp [su]
def qk (l : Rows) (s : St) (q : Nat → Int) (k : Nat) : Nat → Int := fun i => if i < k ∧ s.o i = true then pt l s.o s.f i else q i
def qc (l : Rows) (c : List Nat) (q : Nat → Int) : Nat → Int := fun i => if i ∈ c then mx l i - ba l i else q i
def oc (o : Nat → Bool) (c : List Nat) : Nat → Bool := fun i => o i && !decide (i ∈ c)
theorem tab_cell {n : Nat} (f : Nat → Int) {k : Nat} (h : k < n) {x : Int} : ((tab n f).set k x).getD k 0 = x := by
  rw [tab_set, tab_get _ h, if_pos rfl]
def TQ (l : Rows) (sp gp : Int) : V → H → Prop := fun v h' => v = .tup [.grw 1 (sh l sp gp).1.length, .int .i64 (sh l sp gp).2] ∧ h' = ⟨2, 1, [(1, .arr [.int .i64] .own (.ints (sh l sp gp).1))]⟩
set_option maxHeartbeats 4000000 in
theorem share_ok (l : Rows) (sp gp : Int) (hl : l.length ≤ 9223372036854775807) : SemF Try.prog 25 [.slc 0 3 0 l.length, .int .i64 sp, .int .i64 gp] ⟨1, 1, [(0, .arr [.int .i64, .int .i64, .int .i64] .rd (.recs l))]⟩ (TQ l sp gp) := by
  refine SemF.ret ?_
  refine enter tt_ok Try.func25 (nt := 81) (cd := body Try.f25) rfl rfl rfl rfl ?_
  have bad : ¬ ShOk l sp gp → ∀ nx hx, Nat.ble 1 nx = true → Ret 1 (TQ l sp gp) (.tup [.nils, .int .i64 1]) ⟨nx, 1, hx⟩ := fun he nx hx hn => by
    have e1 : sh l sp gp = ([], 1) := by unfold sh; rw [if_neg he]
    refine ⟨[(1, none)], .tup [.grw 1 0, .int .i64 1], ⟨2, 1, [(1, .arr [.int .i64] .own (.ints []))]⟩, rfl, rfl, rfl, rfl, ?_, ?_, ?_, ?_⟩
    · (repeat' first | exact trivial | exact rfl | refine And.intro ?_ ?_)
    · (repeat' first | exact trivial | exact rfl | refine And.intro ?_ ?_)
    · rw [e1]; rfl
    · rw [e1]
  intro _
  refine call_pure [(0, some 0)] (valid_ok l hl) rfl rfl rfl ?_ ?_ ?_
  · (repeat' first | exact trivial | exact rfl | refine And.intro ?_ ?_)
  · (repeat' first | exact trivial | exact rfl | refine And.intro ?_ ?_)
  intro v hv _
  subst hv
  intro _; refine ⟨fun g => ?_, fun g => ?_⟩
  · have g : (!decide (Vd l)) = true := g
    rw [Bool.not_eq_true'] at g
    have g := of_decide_eq_false g
    intro _
    exact bad (fun h => g h.1) _ _ rfl
  have g : (!decide (Vd l)) = false := g
  rw [Bool.not_eq_false'] at g
  have hv := of_decide_eq_true g
  intro _
  refine len_test _ _ _ ?_
  intro _; refine ⟨fun g => ?_, fun g => ?_⟩
  · have g : (!decide (0 ≤ sp ∧ sp ≤ 1000000)) = true := g
    rw [Bool.not_eq_true'] at g
    have g := of_decide_eq_false g
    intro _
    exact bad (fun h => g h.2.1) _ _ rfl
  have g : (!decide (0 ≤ sp ∧ sp ≤ 1000000)) = false := g
  rw [Bool.not_eq_false'] at g
  have hs := of_decide_eq_true g
  intro _
  refine gap_test _ _ _ ?_
  intro _; refine ⟨fun g => ?_, fun g => ?_⟩
  · have g : (!decide (0 ≤ gp ∧ gp ≤ 100000)) = true := g
    rw [Bool.not_eq_true'] at g
    have g := of_decide_eq_false g
    intro _
    exact bad (fun h => g h.2.2) _ _ rfl
  have g : (!decide (0 ≤ gp ∧ gp ≤ 100000)) = false := g
  rw [Bool.not_eq_false'] at g
  have hg := of_decide_eq_true g
  have e1 : sh l sp gp = (tab l.length (fun i => ba l i + TT l (F0 l sp gp) i), 0) := by unfold sh; rw [if_pos ⟨hv, hs, hg⟩]
  have h64 := hv.1
  have hgn : 0 ≤ gp * ((l.length : Int) - 1) ∧ gp * ((l.length : Int) - 1) ≤ 6300000 := by
    refine ⟨Int.mul_nonneg hg.1 (by omega), ?_⟩
    have h1 : gp * ((l.length : Int) - 1) ≤ 100000 * ((l.length : Int) - 1) := Int.mul_le_mul_of_nonneg_right hg.2 (by omega)
    omega
  have eL0 : IntKind.i64.wrap (sp - IntKind.i64.wrap (gp * IntKind.i64.wrap ((l.length : Int) - 1))) = sp - gp * ((l.length : Int) - 1) := by
    rw [wrapS ((l.length : Int) - 1) ⟨by omega, by omega⟩, wrapS (gp * ((l.length : Int) - 1)) ⟨by omega, by omega⟩, wrapS _ ⟨by omega, by omega⟩]
  have hF := bs_bd hv l.length (Nat.le_refl _)
  have hF0 : 0 ≤ F0 l sp gp ∧ F0 l sp gp ≤ 1000000 := by unfold F0; omega
  intro _; refine ⟨⟨by omega, by omega, by omega⟩, ?_⟩
  intro _; refine ⟨rfl, ?_⟩
  intro _
  refine loop2 tt_ok [41, 8] [1, 2] 3 (fun k : Fin (l.length + 1) => [(41, .int .i64 (k : Nat)), (8, .int .i64 (sp - gp * ((l.length : Int) - 1) - bs l k))]) (fun k => [(1, .map .i64 [.bool] false (em (op (s0 l 0).o k))), (2, .arr [.int .i64] .own (.ints (tab l.length (fun i => if i < (k : Nat) then ba l i else 0))))]) (fun k => l.length - k) ⟨0, by omega⟩ ?_
  intro _
  refine ⟨⟨th [] 3, rfl, rfl, rfl, rfl, rfl, rfl, ?_, ?_⟩, ?_⟩
  · (repeat' first | exact trivial | exact rfl | refine And.intro ?_ ?_)
    show sp - gp * ((l.length : Int) - 1) - bs l 0 = IntKind.i64.wrap (sp - IntKind.i64.wrap (gp * IntKind.i64.wrap ((l.length : Int) - 1)))
    rw [eL0]; simp [bs]
  · (repeat' first | exact trivial | exact rfl | refine And.intro ?_ ?_)
    have : (l.length : Int).toNat = l.length := by omega
    show tab l.length _ = List.replicate (l.length : Int).toNat 0
    rw [this, tab_zero]
    exact tab_ext (fun i _ => if_neg (by simp))
  intro ⟨k, hk⟩
  have z : 0 + k = k := Nat.zero_add k
  intro _; refine ⟨fun g => ?_, fun g => ?_⟩
  · have hkl := of_decide_eq_true (show decide ((k : Int) < (l.length : Int)) = true from g)
    have hb := bs_bd hv k (by omega)
    have hbk := (hv.2 k (by omega)).1
    intro _; refine ⟨show 0 ≤ (k : Int) ∧ (k : Int) < (l.length : Int) by omega, ?_⟩
    intro _; refine ⟨show 0 + (k : Int).toNat < l.length by omega, ?_⟩
    intro _; refine ⟨show 0 ≤ (k : Int) ∧ (k : Int) < ((l.length : Int).toNat : Int) by omega, ?_⟩
    intro _; refine ⟨show (k : Int).toNat < List.length (tab l.length _) by rw [tab_len]; omega, ?_⟩
    have stepW : tab l.length (fun i => if i < k + 1 then ba l i else 0) = (tab l.length (fun i => if i < k then ba l i else 0)).set (k : Int).toNat (ba l (0 + k)) := by
      rw [z]
      show _ = (tab l.length (fun i => if i < k then ba l i else 0)).set k (ba l k)
      rw [tab_set]
      refine tab_ext (fun i _ => ?_)
      by_cases e : i = k
      · subst e; simp
      · by_cases e2 : i < k
        · rw [if_pos (show i < k + 1 by omega), if_neg e, if_pos e2]
        · rw [if_neg (show ¬ i < k + 1 by omega), if_neg e, if_neg e2]
    have stepB : sp - gp * ((l.length : Int) - 1) - bs l (k + 1) = IntKind.i64.wrap (sp - gp * ((l.length : Int) - 1) - bs l k - ba l (0 + k)) := by
      rw [z, wrapS _ ⟨by omega, by omega⟩]
      simp only [bs]; omega
    intro _; refine ⟨fun g => ?_, fun g => ?_⟩
    · have g : decide (gr l (0 + k) > 0) = true := g
      rw [z] at g
      refine ⟨⟨k + 1, by omega⟩, by simp; omega, th [] 3, rfl, rfl, rfl, rfl, rfl, rfl, ?_, ?_⟩
      · (repeat' first | exact trivial | exact rfl | refine And.intro ?_ ?_)
        · exact (wrap_nat k (by omega)).symm
        · exact stepB
      · (repeat' first | exact trivial | exact rfl | refine And.intro ?_ ?_)
        · show em (op (s0 l 0).o (k + 1)) = mput (em (op (s0 l 0).o k)) (k : Int) [D.b true]
          rw [em_put _ _ (op_notin _ _), op_succ, if_pos (show (s0 l 0).o k = true from g)]
        · exact stepW
    · have g : decide (gr l (0 + k) > 0) = false := g
      rw [z] at g
      have g := of_decide_eq_false g
      refine ⟨⟨k + 1, by omega⟩, by simp; omega, th [] 3, rfl, rfl, rfl, rfl, rfl, rfl, ?_, ?_⟩
      · (repeat' first | exact trivial | exact rfl | refine And.intro ?_ ?_)
        · exact (wrap_nat k (by omega)).symm
        · exact stepB
      · (repeat' first | exact trivial | exact rfl | refine And.intro ?_ ?_)
        · show em (op (s0 l 0).o (k + 1)) = em (op (s0 l 0).o k)
          rw [op_succ, if_neg (fun h : (s0 l 0).o k = true => g (of_decide_eq_true h))]
        · exact stepW
  have hkl := of_decide_eq_false (show decide ((k : Int) < (l.length : Int)) = false from g)
  have hkl : k = l.length := by omega
  subst hkl
  intro _
  refine enter tt_ok Try.func43 (nt := 96) (cd := body Try.f43) rfl rfl rfl rfl ?_
  intro _; refine ⟨⟨by omega, by omega, by omega⟩, ?_⟩
  intro _; refine ⟨rfl, ?_⟩
  intro _
  have eM : max (sp - gp * ((l.length : Int) - 1) - bs l l.length) 0 = F0 l sp gp := rfl
  refine meet2 [2] [1, 3] 4 (.exit 0) (fun _ : { q : Nat → Int // ∀ i, i < l.length → q i = TT l (F0 l sp gp) i } => []) (fun q => [(3, .arr [.int .i64] .own (.ints (tab l.length q.1)))]) ?_
  intro _
  refine ⟨?_, fun ⟨q, hq⟩ => ?_⟩
  · refine loop2 tt_ok [2] [1, 3] 4 (fun x : ShI l (TT l (F0 l sp gp)) => [(2, .int .i64 x.1.1.f)]) (fun x => [(1, .map .i64 [.bool] false (em (op x.1.1.o l.length))), (3, .arr [.int .i64] .own (.ints (tab l.length x.1.2.2)))]) (fun x => x.1.2.1) ⟨(s0 l (F0 l sp gp), l.length, fun _ => 0), inv0 hv hF0.1 hF0.2, op_le _ _, fun _ _ => rfl, fun _ _ _ => rfl⟩ ?_
    intro _
    refine ⟨⟨th [] 4, rfl, rfl, rfl, rfl, rfl, rfl, ?_, ?_⟩, ?_⟩
    · (repeat' first | exact trivial | exact rfl | refine And.intro ?_ ?_)
    · (repeat' first | exact trivial | exact rfl | refine And.intro ?_ ?_)
      have : (l.length : Int).toNat = l.length := by omega
      show tab l.length _ = List.replicate (l.length : Int).toNat 0
      rw [this, tab_zero]
    intro ⟨⟨s, kf, q⟩, hI, hc, hT, hq⟩
    have hI : Inv l s := hI
    have hc : (op s.o l.length).length ≤ kf := hc
    have hT : ∀ i, i < l.length → fin l kf s i = TT l (F0 l sp gp) i := hT
    have hq : ∀ i, i < l.length → s.o i = false → q i = s.p i := hq
    intro _; refine ⟨fun g => ?_, fun g => ?_⟩
    rotate_left
    · have g := of_decide_eq_false (show decide (((em (op s.o l.length)).length : Int) > 0) = false from g)
      rw [em_len] at g
      have he : op s.o l.length = [] := List.length_eq_zero_iff.1 (by omega)
      refine Or.inl ⟨⟨q, fun i hi => ?_⟩, rfl, th [] 4, rfl, rfl, rfl, rfl, rfl, rfl, ?_, ?_⟩
      · rw [← hT i hi, fin_empty kf he]; exact hq i hi (empty_closed he i hi)
      · (repeat' first | exact trivial | exact rfl | refine And.intro ?_ ?_)
      · (repeat' first | exact trivial | exact rfl | refine And.intro ?_ ?_)
    have g := of_decide_eq_true (show decide (((em (op s.o l.length)).length : Int) > 0) = true from g)
    rw [em_len] at g
    have hne : op s.o l.length ≠ [] := fun e => by rw [e] at g; simp at g
    have hp := al_pos hI hne
    have hf0 := hI.f0
    have hf1 := hI.f1
    intro _
    refine call_pure [(0, some 0), (1, some 1)] (growth_ok l hv s.o) rfl rfl rfl ?_ ?_ ?_
    · (repeat' first | exact trivial | exact rfl | refine And.intro ?_ ?_)
    · (repeat' first | exact trivial | exact rfl | refine And.intro ?_ ?_)
    intro v hv _
    subst hv
    intro _
    refine enter tt_ok Try.func48 (nt := 8) (cd := body Try.f48) rfl rfl rfl rfl ?_
    intro _
    intro _
    refine loop2 tt_ok [27, 9] [3, 6, 7, 8] 9 (fun k : Fin (l.length + 1) => [(27, .int .i64 (k : Nat)), (9, .grw 8 (op (ct l s.o s.f) k).length)]) (fun k => [(3, .arr [.int .i64] .own (.ints (tab l.length (qk l s q k)))), (6, .cells [.int .i64 (pre l s.o k)]), (7, .cells [.int .i64 ((s.f * pre l s.o k).tdiv (al l s.o))]), (8, .arr [.int .i64] .grow (.ints (CI (op (ct l s.o s.f) k))))]) (fun k => l.length - k) ⟨0, by omega⟩ ?_
    intro _
    refine ⟨⟨th [(8, none)] 9, rfl, rfl, rfl, rfl, rfl, rfl, ?_, ?_⟩, ?_⟩
    · (repeat' first | exact trivial | exact rfl | refine And.intro ?_ ?_)
    · (repeat' first | exact trivial | exact rfl | refine And.intro ?_ ?_)
      show (s.f * 0).tdiv (al l s.o) = 0
      simp
    intro ⟨k, hk⟩
    have z : 0 + k = k := Nat.zero_add k
    intro _; refine ⟨fun g => ?_, fun g => ?_⟩
    · have hkl := of_decide_eq_true (show decide ((k : Int) < (l.length : Int)) = true from g)
      intro _; refine ⟨show 0 ≤ (k : Int) ∧ (k : Int) < (l.length : Int) by omega, ?_⟩
      intro _; refine ⟨show 0 + (k : Int).toNat < l.length by omega, ?_⟩
      have hb := pre_bd hv s.o k (by omega)
      have hgk := (hv.2 k (by omega)).2.1
      have eo : (((mfind (em (op s.o l.length)) (k : Int)).getD [D.b false]).getD 0 (.n 0)).bool = s.o k := by
        rw [em_find]
        show decide (k ∈ op s.o l.length) = s.o k
        have : (k ∈ op s.o l.length) ↔ s.o k = true := by rw [mem_op]; exact ⟨fun h => h.2, fun h => ⟨by omega, h⟩⟩
        by_cases e : s.o k = true
        · rw [e]; exact decide_eq_true (this.2 e)
        · rw [decide_eq_false (fun h => e (this.1 h))]; simpa using e
      have ek := (wrap_nat k (by omega)).symm
      intro _; refine ⟨fun g => ?_, fun g => ?_⟩
      · have g : (!(((mfind (em (op s.o l.length)) (k : Int)).getD [D.b false]).getD 0 (.n 0)).bool) = true := g
        rw [eo, Bool.not_eq_true'] at g
        have hct : ct l s.o s.f k = false := by unfold ct; rw [g]; rfl
        have e2 : op (ct l s.o s.f) (k + 1) = op (ct l s.o s.f) k := by rw [op_succ, if_neg (by rw [hct]; decide)]
        have e3 : pre l s.o (k + 1) = pre l s.o k := by simp only [pre]; rw [if_neg (by rw [g]; decide)]; omega
        refine ⟨⟨k + 1, by omega⟩, by simp; omega, th [] 9, rfl, rfl, rfl, rfl, rfl, rfl, ?_, ?_⟩
        · (repeat' first | exact trivial | exact rfl | refine And.intro ?_ ?_)
          · exact ek
          · exact congrArg List.length e2
        · (repeat' first | exact trivial | exact rfl | refine And.intro ?_ ?_)
          · show tab l.length (qk l s q (k + 1)) = tab l.length (qk l s q k)
            refine tab_ext (fun i _ => ?_)
            unfold qk
            by_cases e : i = k
            · subst e; rw [if_neg (by rw [g]; simp), if_neg (by rw [g]; simp)]
            · by_cases e4 : i < k ∧ s.o i = true
              · rw [if_pos e4, if_pos ⟨by omega, e4.2⟩]
              · rw [if_neg e4, if_neg (fun h => e4 ⟨by omega, h.2⟩)]
          · exact e3
          · show (s.f * pre l s.o (k + 1)).tdiv (al l s.o) = (s.f * pre l s.o k).tdiv (al l s.o)
            rw [e3]
          · exact congrArg CI e2
      have g : (!(((mfind (em (op s.o l.length)) (k : Int)).getD [D.b false]).getD 0 (.n 0)).bool) = false := g
      rw [eo, Bool.not_eq_false'] at g
      have ho := g
      have e3 : pre l s.o (k + 1) = pre l s.o k + gr l k := by simp only [pre]; rw [if_pos ho]
      have hf := fpre_nn hI (k := k + 1) (by omega)
      have hfk := fpre_nn hI (k := k) (by omega)
      have hpt := pt_bd hI hp (i := k) (by omega)
      intro _
      refine enter tt_ok Try.func50 (nt := 20) (cd := body Try.f50) rfl rfl rfl rfl ?_
      intro _; refine ⟨show al l s.o ≠ 0 by omega, ?_⟩
      intro _
      intro _; refine ⟨show 0 ≤ (k : Int) ∧ (k : Int) < ((l.length : Int).toNat : Int) by omega, ?_⟩
      intro _; refine ⟨show (k : Int).toNat < List.length (tab l.length _) by rw [tab_len]; omega, ?_⟩
      -- what the closure has answered
      have eB : IntKind.i64.wrap (pre l s.o k + gr l (0 + k)) = pre l s.o (k + 1) := by
        rw [z, wrapS _ ⟨by omega, by omega⟩, e3]
      have eE : IntKind.i64.wrap ((IntKind.i64.wrap (s.f * IntKind.i64.wrap (pre l s.o k + gr l (0 + k)))).tdiv (al l s.o)) = (s.f * pre l s.o (k + 1)).tdiv (al l s.o) := by
        rw [eB, wrapS (s.f * pre l s.o (k + 1)) ⟨by omega, by omega⟩]
        have h1 := td_nn hf.1 hp
        have h2 := td_nn hfk.1 hp
        have h3 : pt l s.o s.f k = (s.f * pre l s.o (k + 1)).tdiv (al l s.o) - (s.f * pre l s.o k).tdiv (al l s.o) := rfl
        have h4 := pre_mono hv s.o (k := l.length) (i := k) (by omega) (by omega)
        have h5 := td_mono hfk.1 (Int.mul_le_mul_of_nonneg_left h4 hf0) hp
        rw [tot hI hp] at h5
        exact wrapS _ ⟨by omega, by omega⟩
      have eP : IntKind.i64.wrap (IntKind.i64.wrap ((IntKind.i64.wrap (s.f * IntKind.i64.wrap (pre l s.o k + gr l (0 + k)))).tdiv (al l s.o)) - (s.f * pre l s.o k).tdiv (al l s.o)) = pt l s.o s.f k := by
        rw [eE]; exact wrapS (pt l s.o s.f k) ⟨by omega, by omega⟩
      have stepP : tab l.length (qk l s q (k + 1)) = (tab l.length (qk l s q k)).set (k : Int).toNat (IntKind.i64.wrap (IntKind.i64.wrap ((IntKind.i64.wrap (s.f * IntKind.i64.wrap (pre l s.o k + gr l (0 + k)))).tdiv (al l s.o)) - (s.f * pre l s.o k).tdiv (al l s.o))) := by
        rw [eP]
        show _ = (tab l.length (qk l s q k)).set k (pt l s.o s.f k)
        rw [tab_set]
        refine tab_ext (fun i _ => ?_)
        unfold qk
        by_cases e : i = k
        · subst e; rw [if_pos ⟨by omega, ho⟩, if_pos rfl]
        · rw [if_neg e]
          by_cases e4 : i < k ∧ s.o i = true
          · rw [if_pos e4, if_pos ⟨by omega, e4.2⟩]
          · rw [if_neg e4, if_neg (fun h => e4 ⟨by omega, h.2⟩)]
      have noCut : ct l s.o s.f k = false → op (ct l s.o s.f) (k + 1) = op (ct l s.o s.f) k := fun h => by rw [op_succ, if_neg (by rw [h]; decide)]
      have back : op (ct l s.o s.f) (k + 1) = op (ct l s.o s.f) k → True := fun _ => trivial
      intro _; refine ⟨fun g => ?_, fun g => ?_⟩
      rotate_left
      · have g : (mx l (0 + k) != 0) = false := g
        rw [z] at g
        have g4 : mx l k = 0 := by simpa using g
        have hct : ct l s.o s.f k = false := by unfold ct; rw [ho, decide_eq_false (show ¬ mx l k ≠ 0 from fun h => h g4)]; rfl
        intro _; refine ⟨by kernel_rfl, ?_⟩
        refine ⟨⟨k + 1, by omega⟩, by simp; omega, th [] 9, rfl, rfl, rfl, rfl, rfl, rfl, ?_, ?_⟩
        · (repeat' first | exact trivial | exact rfl | refine And.intro ?_ ?_)
          · exact ek
          · exact congrArg List.length (noCut hct)
        · (repeat' first | exact trivial | exact rfl | refine And.intro ?_ ?_)
          · exact stepP
          · exact eB.symm
          · exact eE.symm
          · exact congrArg CI (noCut hct)
      have g : (mx l (0 + k) != 0) = true := g
      rw [z] at g
      have g4 : mx l k ≠ 0 := by simpa using g
      have hmk := (hv.2 k (by omega)).2.2 g4
      have hbk := (hv.2 k (by omega)).1
      intro _; refine ⟨show 0 ≤ (k : Int) ∧ (k : Int) < ((l.length : Int).toNat : Int) by omega, ?_⟩
      intro _; refine ⟨show (k : Int).toNat < List.length ((tab l.length (qk l s q k)).set (k : Int).toNat _) by rw [List.length_set, tab_len]; omega, ?_⟩
      intro _; refine ⟨by kernel_rfl, ?_⟩
      have eS : IntKind.i64.wrap (ba l (0 + k) + ((tab l.length (qk l s q k)).set (k : Int).toNat (IntKind.i64.wrap (IntKind.i64.wrap ((IntKind.i64.wrap (s.f * IntKind.i64.wrap (pre l s.o k + gr l (0 + k)))).tdiv (al l s.o)) - (s.f * pre l s.o k).tdiv (al l s.o)))).getD (k : Int).toNat 0) = ba l k + pt l s.o s.f k := by
        rw [eP, z]
        show IntKind.i64.wrap (ba l k + ((tab l.length (qk l s q k)).set k (pt l s.o s.f k)).getD k 0) = _
        rw [tab_cell _ (by omega)]
        exact wrapS _ ⟨by omega, by omega⟩
      intro _; refine ⟨fun g => ?_, fun g => ?_⟩
      · have g : decide (IntKind.i64.wrap (ba l (0 + k) + ((tab l.length (qk l s q k)).set (k : Int).toNat (IntKind.i64.wrap (IntKind.i64.wrap ((IntKind.i64.wrap (s.f * IntKind.i64.wrap (pre l s.o k + gr l (0 + k)))).tdiv (al l s.o)) - (s.f * pre l s.o k).tdiv (al l s.o)))).getD (k : Int).toNat 0) > mx l (0 + k)) = true := g
        rw [eS, z] at g
        have g := of_decide_eq_true g
        have hct : ct l s.o s.f k = true := by unfold ct; rw [ho, decide_eq_true g4, decide_eq_true g]; rfl
        have e2 : op (ct l s.o s.f) (k + 1) = op (ct l s.o s.f) k ++ [k] := by rw [op_succ, if_pos hct]
        have hlen := op_le (ct l s.o s.f) k
        intro _; refine ⟨rfl, ?_⟩
        intro _; refine ⟨fun g3 => by simp at g3, fun _ => ?_⟩
        refine ⟨⟨(CI_len _).symm, show (op (ct l s.o s.f) k).length + 1 ≤ 4611686018427387904 by omega, show ((op (ct l s.o s.f) k).length + 1) * 8 ≤ 70368744177664 by omega⟩, ?_⟩
        refine ⟨⟨k + 1, by omega⟩, by simp; omega, th [(8, some 11)] 9, rfl, rfl, rfl, rfl, rfl, rfl, ?_, ?_⟩
        · (repeat' first | exact trivial | exact rfl | refine And.intro ?_ ?_)
          · exact ek
          · show (op (ct l s.o s.f) (k + 1)).length = (op (ct l s.o s.f) k).length + 1
            rw [e2, List.length_append]; rfl
        · (repeat' first | exact trivial | exact rfl | refine And.intro ?_ ?_)
          · exact stepP
          · exact eB.symm
          · exact eE.symm
          · show CI (op (ct l s.o s.f) (k + 1)) = CI (op (ct l s.o s.f) k) ++ [(k : Int)]
            rw [e2]; simp [CI]
      · have g : decide (IntKind.i64.wrap (ba l (0 + k) + ((tab l.length (qk l s q k)).set (k : Int).toNat (IntKind.i64.wrap (IntKind.i64.wrap ((IntKind.i64.wrap (s.f * IntKind.i64.wrap (pre l s.o k + gr l (0 + k)))).tdiv (al l s.o)) - (s.f * pre l s.o k).tdiv (al l s.o)))).getD (k : Int).toNat 0) > mx l (0 + k)) = false := g
        rw [eS, z] at g
        have hct : ct l s.o s.f k = false := by unfold ct; rw [ho, g]; simp
        refine ⟨⟨k + 1, by omega⟩, by simp; omega, th [] 9, rfl, rfl, rfl, rfl, rfl, rfl, ?_, ?_⟩
        · (repeat' first | exact trivial | exact rfl | refine And.intro ?_ ?_)
          · exact ek
          · exact congrArg List.length (noCut hct)
        · (repeat' first | exact trivial | exact rfl | refine And.intro ?_ ?_)
          · exact stepP
          · exact eB.symm
          · exact eE.symm
          · exact congrArg CI (noCut hct)
    have hkl := of_decide_eq_false (show decide ((k : Int) < (l.length : Int)) = false from g)
    have hkl : k = l.length := by omega
    subst hkl
    have hcm : ∀ i, i ∈ op (ct l s.o s.f) l.length → i < l.length ∧ 0 ≤ mx l i - ba l i ∧ mx l i - ba l i ≤ 1000000 := fun i hi => by
      rw [mem_op] at hi
      obtain ⟨_, c1, c2⟩ := ct_open hi.2
      have h1 := (hv.2 i hi.1).2.2 c1
      have h2 := (hv.2 i hi.1).1
      exact ⟨hi.1, by omega, by omega⟩
    have hcl : (op (ct l s.o s.f) l.length).length ≤ l.length := op_le _ _
    have hsu := su_cs l s.o s.f l.length
    intro _
    refine loop2 tt_ok [65, 2] [1, 3] 9 (fun j : Fin ((op (ct l s.o s.f) l.length).length + 1) => [(65, .int .i64 (j : Nat)), (2, .int .i64 (s.f - su l ((op (ct l s.o s.f) l.length).take j)))]) (fun j => [(1, .map .i64 [.bool] false (em (op (oc s.o ((op (ct l s.o s.f) l.length).take j)) l.length))), (3, .arr [.int .i64] .own (.ints (tab l.length (qc l ((op (ct l s.o s.f) l.length).take j) (qk l s q l.length)))))]) (fun j => (op (ct l s.o s.f) l.length).length - j) ⟨0, by omega⟩ ?_
    intro _
    refine ⟨⟨th [] 9, rfl, rfl, rfl, rfl, rfl, rfl, ?_, ?_⟩, ?_⟩
    · (repeat' first | exact trivial | exact rfl | refine And.intro ?_ ?_)
      show s.f - 0 = s.f
      omega
    · (repeat' first | exact trivial | exact rfl | refine And.intro ?_ ?_)
      · show em (op (oc s.o []) l.length) = em (op s.o l.length)
        have : oc s.o [] = s.o := by funext i; simp [oc]
        rw [this]
    intro ⟨j, hj⟩
    intro _; refine ⟨fun g => ?_, fun g => ?_⟩
    · have hjl := of_decide_eq_true (show decide ((j : Int) < ((op (ct l s.o s.f) l.length).length : Int)) = true from g)
      have hjn : j < (op (ct l s.o s.f) l.length).length := by omega
      obtain ⟨cc, ecc⟩ : ∃ cc, cc = op (ct l s.o s.f) l.length := ⟨_, rfl⟩
      obtain ⟨x, ex⟩ : ∃ x, x = (op (ct l s.o s.f) l.length).getD j 0 := ⟨_, rfl⟩
      have hxm : x ∈ op (ct l s.o s.f) l.length := by rw [ex]; exact getD_mem hjn
      obtain ⟨hx, hx0, hx1⟩ := hcm x hxm
      have eC : (CI (op (ct l s.o s.f) l.length)).getD (j : Int).toNat 0 = (x : Int) := by
        rw [ex]; exact CI_get _ hjn
      have eCt : ((CI (op (ct l s.o s.f) l.length)).getD (j : Int).toNat 0).toNat = x := by rw [eC]; omega
      have hst := su_take (l := l) hjn
      rw [← ex] at hst
      have hb1 := su_bd (l := l) (c := (op (ct l s.o s.f) l.length).take j) (fun i hi => (hcm i (List.mem_of_mem_take hi)).2)
      have hlt : ((op (ct l s.o s.f) l.length).take j).length ≤ j := by rw [List.length_take]; omega
      intro _; refine ⟨show 0 ≤ (j : Int) ∧ (j : Int) < ((op (ct l s.o s.f) l.length).length : Int) by omega, ?_⟩
      intro _; refine ⟨show (j : Int).toNat < List.length (CI (op (ct l s.o s.f) l.length)) by rw [CI_len]; omega, ?_⟩
      intro _; refine ⟨show 0 ≤ (CI (op (ct l s.o s.f) l.length)).getD (j : Int).toNat 0 ∧ (CI (op (ct l s.o s.f) l.length)).getD (j : Int).toNat 0 < (l.length : Int) by rw [eC]; omega, ?_⟩
      intro _; refine ⟨show 0 + ((CI (op (ct l s.o s.f) l.length)).getD (j : Int).toNat 0).toNat < l.length by rw [eCt]; omega, ?_⟩
      intro _; refine ⟨show 0 ≤ (CI (op (ct l s.o s.f) l.length)).getD (j : Int).toNat 0 ∧ (CI (op (ct l s.o s.f) l.length)).getD (j : Int).toNat 0 < (l.length : Int) by rw [eC]; omega, ?_⟩
      intro _; refine ⟨show 0 + ((CI (op (ct l s.o s.f) l.length)).getD (j : Int).toNat 0).toNat < l.length by rw [eCt]; omega, ?_⟩
      intro _; refine ⟨show 0 ≤ (CI (op (ct l s.o s.f) l.length)).getD (j : Int).toNat 0 ∧ (CI (op (ct l s.o s.f) l.length)).getD (j : Int).toNat 0 < ((l.length : Int).toNat : Int) by rw [eC]; omega, ?_⟩
      intro _; refine ⟨show ((CI (op (ct l s.o s.f) l.length)).getD (j : Int).toNat 0).toNat < List.length (tab l.length _) by rw [eCt, tab_len]; omega, ?_⟩
      intro _; refine ⟨by kernel_rfl, ?_⟩
      intro _; refine ⟨show 0 ≤ (CI (op (ct l s.o s.f) l.length)).getD (j : Int).toNat 0 ∧ (CI (op (ct l s.o s.f) l.length)).getD (j : Int).toNat 0 < ((l.length : Int).toNat : Int) by rw [eC]; omega, ?_⟩
      intro _; refine ⟨show ((CI (op (ct l s.o s.f) l.length)).getD (j : Int).toNat 0).toNat < List.length ((tab l.length _).set _ _) by rw [List.length_set, eCt, tab_len]; omega, ?_⟩
      have eV : IntKind.i64.wrap (mx l (0 + ((CI (op (ct l s.o s.f) l.length)).getD (j : Int).toNat 0).toNat) - ba l (0 + ((CI (op (ct l s.o s.f) l.length)).getD (j : Int).toNat 0).toNat)) = mx l x - ba l x := by
        rw [eCt, Nat.zero_add]; exact wrapS _ ⟨by omega, by omega⟩
      refine ⟨⟨j + 1, by omega⟩, by simp; omega, th [] 9, rfl, rfl, rfl, rfl, rfl, rfl, ?_, ?_⟩
      · (repeat' first | exact trivial | exact rfl | refine And.intro ?_ ?_)
        · exact (wrap_nat j (by omega)).symm
        · show s.f - su l ((op (ct l s.o s.f) l.length).take (j + 1)) = IntKind.i64.wrap (s.f - su l ((op (ct l s.o s.f) l.length).take j) - ((tab l.length (qc l ((op (ct l s.o s.f) l.length).take j) (qk l s q l.length))).set ((CI (op (ct l s.o s.f) l.length)).getD (j : Int).toNat 0).toNat (IntKind.i64.wrap (mx l (0 + ((CI (op (ct l s.o s.f) l.length)).getD (j : Int).toNat 0).toNat) - ba l (0 + ((CI (op (ct l s.o s.f) l.length)).getD (j : Int).toNat 0).toNat)))).getD ((CI (op (ct l s.o s.f) l.length)).getD (j : Int).toNat 0).toNat 0)
          rw [eV, eCt, tab_cell _ hx, hst, wrapS _ ⟨by omega, by omega⟩]
          omega
      · (repeat' first | exact trivial | exact rfl | refine And.intro ?_ ?_)
        · show em (op (oc s.o ((op (ct l s.o s.f) l.length).take (j + 1))) l.length) = mdel (em (op (oc s.o ((op (ct l s.o s.f) l.length).take j)) l.length)) ((CI (op (ct l s.o s.f) l.length)).getD (j : Int).toNat 0)
          rw [eC, em_del _ _ (op_nodup _ _)]
          congr 1
          unfold op
          rw [List.filter_filter]
          refine List.filter_congr (fun i _ => ?_)
          have := mem_take_succ (i := i) hjn
          rw [← ex] at this
          unfold oc op at *
          by_cases e1 : i = x
          · have e2 := this.2 (.inr e1)
            rw [decide_eq_true e1, decide_eq_true e2]; simp
          · by_cases e2 : i ∈ List.take j (List.filter (ct l s.o s.f) (List.range l.length))
            · rw [decide_eq_true (this.2 (.inl e2)), decide_eq_true e2]; simp
            · rw [decide_eq_false (fun h => (this.1 h).elim e2 e1), decide_eq_false e2, decide_eq_false e1]; simp
        · show tab l.length (qc l ((op (ct l s.o s.f) l.length).take (j + 1)) (qk l s q l.length)) = (tab l.length (qc l ((op (ct l s.o s.f) l.length).take j) (qk l s q l.length))).set ((CI (op (ct l s.o s.f) l.length)).getD (j : Int).toNat 0).toNat (IntKind.i64.wrap (mx l (0 + ((CI (op (ct l s.o s.f) l.length)).getD (j : Int).toNat 0).toNat) - ba l (0 + ((CI (op (ct l s.o s.f) l.length)).getD (j : Int).toNat 0).toNat)))
          rw [eV, eCt, tab_set]
          refine tab_ext (fun i _ => ?_)
          have := mem_take_succ (i := i) hjn
          rw [← ex] at this
          unfold qc
          by_cases e1 : i = x
          · subst e1; rw [if_pos (this.2 (.inr rfl)), if_pos rfl]
          · by_cases e2 : i ∈ (op (ct l s.o s.f) l.length).take j
            · rw [if_pos (this.2 (.inl e2)), if_neg e1, if_pos e2]
            · rw [if_neg (fun h => (this.1 h).elim e2 e1), if_neg e1, if_neg e2]
    have hjl := of_decide_eq_false (show decide ((j : Int) < ((op (ct l s.o s.f) l.length).length : Int)) = false from g)
    have hjn : j = (op (ct l s.o s.f) l.length).length := by omega
    subst hjn
    have eT : (op (ct l s.o s.f) l.length).take (op (ct l s.o s.f) l.length).length = op (ct l s.o s.f) l.length := List.take_length
    intro _; refine ⟨fun g => ?_, fun g => ?_⟩
    · have g : (((op (ct l s.o s.f) l.length).length : Int) == 0) = true := g
      have g0 : (op (ct l s.o s.f) l.length).length = 0 := by have : ((op (ct l s.o s.f) l.length).length : Int) = 0 := by simpa using g
                                                              omega
      have hnc : op (ct l s.o s.f) l.length = [] := List.length_eq_zero_iff.1 g0
      refine Or.inl ⟨⟨lastP l s, fun i hi => ?_⟩, rfl, th [] 4, rfl, rfl, rfl, rfl, rfl, rfl, ?_, ?_⟩
      · rw [← hT i hi, fin_last hne hc hnc]
      · (repeat' first | exact trivial | exact rfl | refine And.intro ?_ ?_)
      · (repeat' first | exact trivial | exact rfl | refine And.intro ?_ ?_)
        show tab l.length (lastP l s) = tab l.length (qc l ((op (ct l s.o s.f) l.length).take (op (ct l s.o s.f) l.length).length) (qk l s q l.length))
        rw [eT, hnc]
        refine tab_ext (fun i hi => ?_)
        unfold lastP qc qk
        by_cases e : s.o i = true
        · rw [if_pos e, if_neg List.not_mem_nil, if_pos ⟨hi, e⟩]
        · rw [if_neg e, if_neg List.not_mem_nil, if_neg (fun h => e h.2)]; exact (hq i hi (by simpa using e)).symm
    · have g : (((op (ct l s.o s.f) l.length).length : Int) == 0) = false := g
      have hnc : op (ct l s.o s.f) l.length ≠ [] := fun e => by rw [e] at g; simp at g
      obtain ⟨k', h1, h2, h3⟩ := fin_next hne hc hnc
      have eo : oc s.o (op (ct l s.o s.f) l.length) = fun i => s.o i && !decide (i ∈ op (ct l s.o s.f) l.length) := rfl
      have emem : ∀ i, i < l.length → decide (i ∈ op (ct l s.o s.f) l.length) = ct l s.o s.f i := fun i hi => by
        by_cases e : ct l s.o s.f i = true
        · rw [e]; exact decide_eq_true (mem_op.2 ⟨hi, e⟩)
        · rw [decide_eq_false (fun h => e (mem_op.1 h).2)]; simpa using e
      refine ⟨⟨(step l s, k', qc l (op (ct l s.o s.f) l.length) (qk l s q l.length)), hI.step hp, h3, fun i hi => by rw [← h2]; exact hT i hi, fun i hi ho => ?_⟩, h1, th [] 4, rfl, rfl, rfl, rfl, rfl, rfl, ?_, ?_⟩
      · have ho : (s.o i && !ct l s.o s.f i) = false := ho
        show qc l (op (ct l s.o s.f) l.length) (qk l s q l.length) i = (if ct l s.o s.f i = true then mx l i - ba l i else s.p i)
        unfold qc qk
        by_cases e : ct l s.o s.f i = true
        · rw [if_pos (mem_op.2 ⟨hi, e⟩), if_pos e]
        · rw [if_neg (fun h => e (mem_op.1 h).2), if_neg e]
          have e2 : ct l s.o s.f i = false := by simpa using e
          rw [e2] at ho
          have e3 : s.o i = false := by simpa using ho
          rw [if_neg (by rw [e3]; simp)]
          exact hq i hi e3
      · (repeat' first | exact trivial | exact rfl | refine And.intro ?_ ?_)
        show s.f - cs l s.o s.f l.length = s.f - su l ((op (ct l s.o s.f) l.length).take (op (ct l s.o s.f) l.length).length)
        rw [eT, hsu]
      · (repeat' first | exact trivial | exact rfl | refine And.intro ?_ ?_)
        · show em (op (step l s).o l.length) = em (op (oc s.o ((op (ct l s.o s.f) l.length).take (op (ct l s.o s.f) l.length).length)) l.length)
          rw [eT]
          congr 1
          unfold op
          refine List.filter_congr (fun i hi => ?_)
          have hi := List.mem_range.1 hi
          show (s.o i && !ct l s.o s.f i) = (s.o i && !decide (i ∈ op (ct l s.o s.f) l.length))
          rw [emem i hi]
        · show tab l.length _ = tab l.length (qc l ((op (ct l s.o s.f) l.length).take (op (ct l s.o s.f) l.length).length) (qk l s q l.length))
          rw [eT]
  -- the widths
  have hTb : ∀ i, i < l.length → 0 ≤ TT l (F0 l sp gp) i ∧ TT l (F0 l sp gp) i ≤ 1000000 := fun i hi => fin_bd l.length _ (inv0 hv hF0.1 hF0.2) i hi
  intro _
  intro _
  refine loop2 tt_ok [67] [2] 4 (fun k : Fin (l.length + 1) => [(67, .int .i64 (k : Nat))]) (fun k => [(2, .arr [.int .i64] .own (.ints (tab l.length (fun i => if i < (k : Nat) then ba l i + TT l (F0 l sp gp) i else ba l i))))]) (fun k => l.length - k) ⟨0, by omega⟩ ?_
  intro _
  refine ⟨⟨th [] 4, rfl, rfl, rfl, rfl, rfl, rfl, ?_, ?_⟩, ?_⟩
  · (repeat' first | exact trivial | exact rfl | refine And.intro ?_ ?_)
  · (repeat' first | exact trivial | exact rfl | refine And.intro ?_ ?_)
    show tab l.length (fun i => if i < 0 then ba l i + TT l (F0 l sp gp) i else ba l i) = tab l.length (fun i => if i < l.length then ba l i else 0)
    exact tab_ext (fun i hi => by rw [if_neg (by omega), if_pos hi])
  intro ⟨k, hk⟩
  intro _; refine ⟨fun g => ?_, fun g => ?_⟩
  · have hkl := of_decide_eq_true (show decide ((k : Int) < ((l.length : Int).toNat : Int)) = true from g)
    have hkn : k < l.length := by omega
    have ik : 0 ≤ (k : Int) ∧ (k : Int) < ((l.length : Int).toNat : Int) := by omega
    have hb := (hv.2 k hkn).1
    have ht := hTb k hkn
    have hqk := hq k hkn
    intro _; refine ⟨ik, ?_⟩
    intro _; refine ⟨show (k : Int).toNat < List.length (tab l.length _) by rw [tab_len]; omega, ?_⟩
    intro _; refine ⟨ik, ?_⟩
    intro _; refine ⟨show (k : Int).toNat < List.length (tab l.length _) by rw [tab_len]; omega, ?_⟩
    intro _; refine ⟨ik, ?_⟩
    intro _; refine ⟨show (k : Int).toNat < List.length (tab l.length _) by rw [tab_len]; omega, ?_⟩
    refine ⟨⟨k + 1, by omega⟩, by simp; omega, th [] 4, rfl, rfl, rfl, rfl, rfl, rfl, ?_, ?_⟩
    · (repeat' first | exact trivial | exact rfl | refine And.intro ?_ ?_)
      exact (wrap_nat k (by omega)).symm
    · (repeat' first | exact trivial | exact rfl | refine And.intro ?_ ?_)
      show tab l.length (fun i => if i < k + 1 then ba l i + TT l (F0 l sp gp) i else ba l i) = (tab l.length (fun i => if i < k then ba l i + TT l (F0 l sp gp) i else ba l i)).set k (IntKind.i64.wrap ((tab l.length (fun i => if i < k then ba l i + TT l (F0 l sp gp) i else ba l i)).getD k 0 + (tab l.length q).getD k 0))
      rw [tab_get _ hkn, tab_get _ hkn, if_neg (by omega), hqk, wrapS _ ⟨by omega, by omega⟩, tab_set]
      refine tab_ext (fun i _ => ?_)
      by_cases e : i = k
      · subst e; rw [if_pos (by omega), if_pos rfl]
      · rw [if_neg e]
        by_cases e2 : i < k
        · rw [if_pos e2, if_pos (by omega)]
        · rw [if_neg e2, if_neg (by omega)]
  · have hkl := of_decide_eq_false (show decide ((k : Int) < ((l.length : Int).toNat : Int)) = false from g)
    have hkl : k = l.length := by omega
    subst hkl
    intro _
    refine ⟨[(1, some 2)], .tup [.grw 1 (sh l sp gp).1.length, .int .i64 (sh l sp gp).2], ⟨2, 1, [(1, .arr [.int .i64] .own (.ints (sh l sp gp).1))]⟩, rfl, rfl, rfl, rfl, ?_, ?_, ⟨rfl, rfl⟩⟩
    · rw [e1]
      (repeat' first | exact trivial | exact rfl | refine And.intro ?_ ?_)
      show List.length (tab l.length _) = (l.length : Int).toNat
      rw [tab_len]; omega
    · rw [e1]
      (repeat' first | exact trivial | exact rfl | refine And.intro ?_ ?_)
      exact tab_ext (fun i hi => (if_pos hi).symm)
/-! where sharing ends -/
theorem fin_end {l : Rows} (I : St → Prop) (hI : ∀ s, I s → Inv l s) (hs : ∀ s, I s → op s.o l.length ≠ [] → I (step l s)) : ∀ k s, I s → (op s.o l.length).length ≤ k →
    ∃ s', I s' ∧ ((op s'.o l.length = [] ∧ fin l k s = s'.p) ∨ (op s'.o l.length ≠ [] ∧ op (ct l s'.o s'.f) l.length = [] ∧ fin l k s = lastP l s'))
  | 0, s, h, hk => ⟨s, h, .inl ⟨List.length_eq_zero_iff.1 (by omega), rfl⟩⟩
  | k + 1, s, h, hk => by
    by_cases e1 : op s.o l.length = []
    · exact ⟨s, h, .inl ⟨e1, fin_empty _ e1⟩⟩
    · by_cases e2 : op (ct l s.o s.f) l.length = []
      · exact ⟨s, h, .inr ⟨e1, e2, fin_last e1 hk e2⟩⟩
      · have hc := cnt_step l s e2
        obtain ⟨s', h1, h2⟩ := fin_end I hI hs k (step l s) (hs s h e1) (by omega)
        have e : fin l (k + 1) s = fin l k (step l s) := by simp only [fin]; rw [if_neg e1, if_neg e2]
        rw [e]; exact ⟨s', h1, h2⟩
def sm (f : Nat → Int) : Nat → Int
  | 0 => 0
  | k + 1 => sm f k + f k
theorem sm_ext {f g : Nat → Int} : ∀ {k : Nat}, (∀ i, i < k → f i = g i) → sm f k = sm g k
  | 0, _ => rfl
  | k + 1, h => by simp only [sm]; rw [sm_ext (fun i hi => h i (by omega)), h k (by omega)]
theorem sm_add (f g : Nat → Int) : ∀ k, sm (fun i => f i + g i) k = sm f k + sm g k
  | 0 => rfl
  | k + 1 => by simp only [sm]; rw [sm_add f g k]; omega
def clo (s : St) : Nat → Int := fun i => if s.o i = true then 0 else s.p i
def gs (l : Rows) (o : Nat → Bool) (f : Int) : Nat → Int
  | 0 => 0
  | k + 1 => gs l o f k + (if ct l o f k = true then gr l k else 0)
theorem clo_step (l : Rows) (s : St) : ∀ k, sm (clo (step l s)) k = sm (clo s) k + cs l s.o s.f k
  | 0 => rfl
  | k + 1 => by
    simp only [sm, cs]
    rw [clo_step l s k]
    have : clo (step l s) k = clo s k + (if ct l s.o s.f k = true then mx l k - ba l k else 0) := by
      show (if (s.o k && !ct l s.o s.f k) = true then 0 else (if ct l s.o s.f k = true then mx l k - ba l k else s.p k)) = (if s.o k = true then 0 else s.p k) + _
      by_cases e : ct l s.o s.f k = true
      · obtain ⟨e2, _⟩ := ct_open e
        rw [if_pos e, if_pos e2, if_pos e, e, e2]; simp
      · have e' : ct l s.o s.f k = false := by simpa using e
        rw [if_neg e, if_neg e, e']
        by_cases e2 : s.o k = true
        · rw [e2]; simp
        · rw [if_neg e2, if_neg (by simpa using e2)]; omega
    rw [this]; omega
theorem pre_step (l : Rows) (s : St) : ∀ k, pre l (step l s).o k = pre l s.o k - gs l s.o s.f k
  | 0 => rfl
  | k + 1 => by
    simp only [pre, gs]
    rw [pre_step l s k]
    have : (if (step l s).o k = true then gr l k else 0) = (if s.o k = true then gr l k else 0) - (if ct l s.o s.f k = true then gr l k else 0) := by
      show (if (s.o k && !ct l s.o s.f k) = true then gr l k else 0) = _
      by_cases e : ct l s.o s.f k = true
      · obtain ⟨e2, _⟩ := ct_open e
        rw [if_pos e, if_pos e2, e, e2]; simp
      · have e' : ct l s.o s.f k = false := by simpa using e
        rw [if_neg e, e']
        by_cases e2 : s.o k = true
        · rw [e2]; simp
        · rw [if_neg e2, if_neg (by simpa using e2)]; omega
    rw [this]; omega
/-- what is cut gets less than its part -/
theorem cut_le {l : Rows} {s : St} (h : Inv l s) (hp : 0 < al l s.o) {i : Nat} (hi : i < l.length) (ho : s.o i = true) {c : Int} (hc : c < pt l s.o s.f i) : c * al l s.o ≤ s.f * gr l i := by
  have h1 := fpre_nn h (k := i) (by omega)
  have h2 := fpre_nn h (k := i + 1) (by omega)
  have e : pre l s.o (i + 1) = pre l s.o i + gr l i := by simp only [pre]; rw [if_pos ho]
  unfold pt at hc
  rw [Int.tdiv_eq_ediv_of_nonneg h1.1, Int.tdiv_eq_ediv_of_nonneg h2.1] at hc
  have a1 := Int.emod_add_mul_ediv (s.f * pre l s.o i) (al l s.o)
  have a2 := Int.emod_add_mul_ediv (s.f * pre l s.o (i + 1)) (al l s.o)
  have b1 := Int.emod_nonneg (s.f * pre l s.o i) (show al l s.o ≠ 0 by omega)
  have b2 := Int.emod_nonneg (s.f * pre l s.o (i + 1)) (show al l s.o ≠ 0 by omega)
  have c1 := Int.emod_lt_of_pos (s.f * pre l s.o i) hp
  have c2 := Int.emod_lt_of_pos (s.f * pre l s.o (i + 1)) hp
  have hc2 : c ≤ (s.f * pre l s.o (i + 1)) / al l s.o - (s.f * pre l s.o i) / al l s.o - 1 := by omega
  have hm := Int.mul_le_mul_of_nonneg_right hc2 (show 0 ≤ al l s.o by omega)
  rw [Int.sub_mul, Int.sub_mul, Int.one_mul, Int.mul_comm ((s.f * pre l s.o (i + 1)) / al l s.o), Int.mul_comm ((s.f * pre l s.o i) / al l s.o)] at hm
  have e3 : s.f * pre l s.o (i + 1) = s.f * pre l s.o i + s.f * gr l i := by rw [e, Int.mul_add]
  omega
theorem cs_gs {l : Rows} {s : St} (h : Inv l s) (hp : 0 < al l s.o) : ∀ k, k ≤ l.length → cs l s.o s.f k * al l s.o ≤ s.f * gs l s.o s.f k
  | 0, _ => by simp [cs, gs]
  | k + 1, hk => by
    have ih := cs_gs h hp k (by omega)
    simp only [cs, gs]
    rw [Int.add_mul, Int.mul_add]
    by_cases e : ct l s.o s.f k = true
    · obtain ⟨e1, e2, e3⟩ := ct_open e
      rw [if_pos e, if_pos e]
      have := cut_le h hp (i := k) (by omega) e1 (c := mx l k - ba l k) (by omega)
      omega
    · rw [if_neg e, if_neg e]; simp; exact ih
theorem ratio {l : Rows} {s : St} (h : Inv l s) (hp : 0 < al l s.o) : s.f * al l (step l s).o ≤ (step l s).f * al l s.o := by
  have h1 := cs_gs h hp l.length (Nat.le_refl _)
  have h2 : al l (step l s).o = al l s.o - gs l s.o s.f l.length := pre_step l s l.length
  rw [h2, Int.mul_sub]
  show _ ≤ (s.f - cs l s.o s.f l.length) * al l s.o
  rw [Int.sub_mul]
  omega
theorem al_nn {l : Rows} (hv : Vd l) (o : Nat → Bool) : 0 ≤ al l o := (pre_bd hv o l.length (Nat.le_refl _)).1
structure G (l : Rows) (F : Int) (s : St) : Prop where
  inv : Inv l s
  c1 : ∀ i, i < l.length → s.o i = false → (gr l i = 0 ∧ s.p i = 0) ∨ (0 < gr l i ∧ mx l i ≠ 0 ∧ s.p i = mx l i - ba l i)
  c2 : F = s.f + sm (clo s) l.length
  c3 : ∀ i, i < l.length → s.o i = false → 0 < gr l i → s.p i * al l s.o ≤ s.f * gr l i
theorem G0 {l : Rows} {F : Int} (hv : Vd l) (h0 : 0 ≤ F) (h1 : F ≤ 1000000) : G l F (s0 l F) := by
  refine ⟨inv0 hv h0 h1, fun i hi ho => ?_, ?_, fun i hi ho hg => ?_⟩
  · have ho := of_decide_eq_false ho
    have := (hv.2 i hi).2.1.1
    exact .inl ⟨by omega, rfl⟩
  · have : ∀ k, sm (clo (s0 l F)) k = 0 := by
      intro k
      induction k with
      | zero => rfl
      | succ k ih =>
        simp only [sm]; rw [ih]
        show 0 + (if (s0 l F).o k = true then (0 : Int) else 0) = 0
        split <;> rfl
    rw [this]; show F = F + 0; omega
  · have ho := of_decide_eq_false ho
    omega
theorem Gstep {l : Rows} {F : Int} {s : St} (g : G l F s) (hne : op s.o l.length ≠ []) : G l F (step l s) := by
  have hp := al_pos g.inv hne
  refine ⟨g.inv.step hp, fun i hi ho => ?_, ?_, fun i hi ho hg => ?_⟩
  · have ho : (s.o i && !ct l s.o s.f i) = false := ho
    show (gr l i = 0 ∧ (if ct l s.o s.f i = true then mx l i - ba l i else s.p i) = 0) ∨ _ ∧ _ ∧ (if ct l s.o s.f i = true then mx l i - ba l i else s.p i) = _
    by_cases e : ct l s.o s.f i = true
    · obtain ⟨e1, e2, e3⟩ := ct_open e
      rw [if_pos e]
      exact .inr ⟨g.inv.og i hi e1, e2, rfl⟩
    · rw [if_neg e]
      have e' : ct l s.o s.f i = false := by simpa using e
      rw [e'] at ho
      exact g.c1 i hi (by simpa using ho)
  · rw [clo_step]
    show F = s.f - cs l s.o s.f l.length + _
    have := g.c2
    omega
  · have ho : (s.o i && !ct l s.o s.f i) = false := ho
    have hr := ratio g.inv hp
    have hn := al_nn g.inv.v (step l s).o
    have key : ∀ c : Int, c * al l s.o ≤ s.f * gr l i → c * al l (step l s).o ≤ (step l s).f * gr l i := by
      intro c hc
      refine Int.le_of_mul_le_mul_right (a := al l s.o) ?_ hp
      have h1 := Int.mul_le_mul_of_nonneg_right hc hn
      have h2 := Int.mul_le_mul_of_nonneg_right hr (show 0 ≤ gr l i by omega)
      have e1 : c * al l (step l s).o * al l s.o = c * al l s.o * al l (step l s).o := by rw [Int.mul_assoc, Int.mul_comm (al l (step l s).o), ← Int.mul_assoc]
      have e2 : s.f * gr l i * al l (step l s).o = s.f * al l (step l s).o * gr l i := by rw [Int.mul_assoc, Int.mul_comm (gr l i), ← Int.mul_assoc]
      have e3 : (step l s).f * gr l i * al l s.o = (step l s).f * al l s.o * gr l i := by rw [Int.mul_assoc, Int.mul_comm (gr l i), ← Int.mul_assoc]
      rw [e1, e3]
      rw [e2] at h1
      exact Int.le_trans h1 h2
    show (if ct l s.o s.f i = true then mx l i - ba l i else s.p i) * _ ≤ _
    by_cases e : ct l s.o s.f i = true
    · obtain ⟨e1, e2, e3⟩ := ct_open e
      rw [if_pos e]
      exact key _ (cut_le g.inv hp hi e1 (by omega))
    · rw [if_neg e]
      have e' : ct l s.o s.f i = false := by simpa using e
      rw [e'] at ho
      exact key _ (g.c3 i hi (by simpa using ho) hg)
theorem T_end {l : Rows} {F : Int} (hv : Vd l) (h0 : 0 ≤ F) (h1 : F ≤ 1000000) : ∃ s, G l F s ∧ ((op s.o l.length = [] ∧ TT l F = s.p) ∨ (op s.o l.length ≠ [] ∧ op (ct l s.o s.f) l.length = [] ∧ TT l F = lastP l s)) :=
  fin_end (G l F) (fun s g => g.inv) (fun s g h => Gstep g h) l.length _ (G0 hv h0 h1) (op_le _ _)
theorem not_ct {l : Rows} {o : Nat → Bool} {f : Int} (h : op (ct l o f) l.length = []) {i : Nat} (hi : i < l.length) (ho : o i = true) (hm : mx l i ≠ 0) : ba l i + pt l o f i ≤ mx l i := by
  have h1 := empty_closed h i hi
  unfold ct at h1
  rw [ho, decide_eq_true hm] at h1
  have h1 : decide (ba l i + pt l o f i > mx l i) = false := by simpa using h1
  have := of_decide_eq_false h1
  omega
/-- Limits -/
theorem T_lim {l : Rows} {F : Int} (hv : Vd l) (h0 : 0 ≤ F) (h1 : F ≤ 1000000) {i : Nat} (hi : i < l.length) : 0 ≤ TT l F i ∧ (mx l i ≠ 0 → ba l i + TT l F i ≤ mx l i) ∧ (gr l i = 0 → TT l F i = 0) := by
  obtain ⟨s, g, ⟨e1, e2⟩ | ⟨e1, e2, e3⟩⟩ := T_end hv h0 h1
  · have ho := empty_closed e1 i hi
    rw [e2]
    have hb := (hv.2 i hi).2.2
    rcases g.c1 i hi ho with ⟨a, b⟩ | ⟨a, b, c⟩
    · rw [b]; exact ⟨by omega, fun hm => by have := hb hm; omega, fun _ => rfl⟩
    · rw [c]; have := hb b; exact ⟨by omega, fun _ => by omega, fun h => by omega⟩
  · rw [e3]
    unfold lastP
    have hp := al_pos g.inv e1
    by_cases ho : s.o i = true
    · rw [if_pos ho]
      exact ⟨(pt_bd g.inv hp hi).1, fun hm => not_ct e2 hi ho hm, fun h => by have := g.inv.og i hi ho; omega⟩
    · rw [if_neg ho]
      have hb := (hv.2 i hi).2.2
      rcases g.c1 i hi (by simpa using ho) with ⟨a, b⟩ | ⟨a, b, c⟩
      · rw [b]; exact ⟨by omega, fun hm => by have := hb hm; omega, fun _ => rfl⟩
      · rw [c]; have := hb b; exact ⟨by omega, fun _ => by omega, fun h => by omega⟩
/-- the parts, one behind the other -/
theorem sm_pt {l : Rows} {s : St} (h : Inv l s) : ∀ k, sm (fun i => if s.o i = true then pt l s.o s.f i else 0) k = (s.f * pre l s.o k).tdiv (al l s.o)
  | 0 => by simp [sm, pre]
  | k + 1 => by
    simp only [sm]
    rw [sm_pt h k]
    by_cases e : s.o k = true
    · rw [if_pos e]; unfold pt; omega
    · rw [if_neg e]; simp only [pre]; rw [if_neg e]; simp
theorem T_sum {l : Rows} {F : Int} (hv : Vd l) (h0 : 0 ≤ F) (h1 : F ≤ 1000000) : sm (TT l F) l.length ≤ F ∧ ((∃ i, i < l.length ∧ 0 < gr l i ∧ (mx l i = 0 ∨ ba l i + TT l F i < mx l i)) → sm (TT l F) l.length = F) := by
  obtain ⟨s, g, ⟨e1, e2⟩ | ⟨e1, e2, e3⟩⟩ := T_end hv h0 h1
  · rw [e2]
    have e : sm s.p l.length = sm (clo s) l.length := sm_ext (fun i hi => by unfold clo; rw [if_neg (by rw [empty_closed e1 i hi]; decide)])
    have := g.c2
    have := g.inv.f0
    refine ⟨by rw [e]; omega, fun ⟨i, hi, a, b⟩ => ?_⟩
    exfalso
    rcases g.c1 i hi (empty_closed e1 i hi) with ⟨c, _⟩ | ⟨c, d, f⟩
    · omega
    · rw [f] at b
      rcases b with b | b
      · exact d b
      · omega
  · rw [e3]
    have hp := al_pos g.inv e1
    have e : sm (lastP l s) l.length = sm (fun i => (if s.o i = true then pt l s.o s.f i else 0) + clo s i) l.length := sm_ext (fun i hi => by unfold lastP clo; split <;> omega)
    have := g.c2
    have : sm (lastP l s) l.length = F := by
      rw [e, sm_add, sm_pt g.inv, tot g.inv hp]; omega
    rw [this]
    exact ⟨Int.le_refl _, fun _ => rfl⟩
/-- Fair -/
theorem T_fair {l : Rows} {F : Int} (hv : Vd l) (h0 : 0 ≤ F) (h1 : F ≤ 1000000) {i k : Nat} (hi : i < l.length) (hk : k < l.length) (hg : gr l k ≤ gr l i) (hk0 : gr l k ≠ 0) (hm : mx l i = 0 ∨ ba l i + TT l F i < mx l i) : TT l F k - 1 ≤ TT l F i := by
  have hgk : 0 < gr l k := by have := (hv.2 k hk).2.1.1; omega
  obtain ⟨s, g, ⟨e1, e2⟩ | ⟨e1, e2, e3⟩⟩ := T_end hv h0 h1
  · exfalso
    rw [e2] at hm
    rcases g.c1 i hi (empty_closed e1 i hi) with ⟨c, _⟩ | ⟨c, d, f⟩
    · omega
    · rw [f] at hm
      rcases hm with b | b
      · exact d b
      · omega
  · have hp := al_pos g.inv e1
    rw [e3] at hm ⊢
    have hoi : s.o i = true := by
      cases ho : s.o i with
      | true => rfl
      | false =>
        exfalso
        unfold lastP at hm
        rw [ho] at hm
        rcases g.c1 i hi ho with ⟨c, _⟩ | ⟨c, d, f⟩
        · omega
        · rw [f] at hm
          rcases hm with b | b
          · exact d b
          · simp at b; omega
    -- the part of i is at least the floor of its share
    have low : ∀ c : Int, c * al l s.o ≤ s.f * gr l i → c ≤ pt l s.o s.f i := by
      intro c hc
      rcases Int.lt_or_le (pt l s.o s.f i) c with hlt | hle
      · exfalso
        have h1 := fpre_nn g.inv (k := i) (by omega)
        have h2 := fpre_nn g.inv (k := i + 1) (by omega)
        have e : pre l s.o (i + 1) = pre l s.o i + gr l i := by simp only [pre]; rw [if_pos hoi]
        unfold pt at hlt
        rw [Int.tdiv_eq_ediv_of_nonneg h1.1, Int.tdiv_eq_ediv_of_nonneg h2.1] at hlt
        have a1 := Int.emod_add_mul_ediv (s.f * pre l s.o i) (al l s.o)
        have a2 := Int.emod_add_mul_ediv (s.f * pre l s.o (i + 1)) (al l s.o)
        have b1 := Int.emod_nonneg (s.f * pre l s.o i) (show al l s.o ≠ 0 by omega)
        have c2 := Int.emod_lt_of_pos (s.f * pre l s.o (i + 1)) hp
        have hc2 : (s.f * pre l s.o (i + 1)) / al l s.o - (s.f * pre l s.o i) / al l s.o + 1 ≤ c := by omega
        have hm2 := Int.mul_le_mul_of_nonneg_right hc2 (show 0 ≤ al l s.o by omega)
        rw [Int.add_mul, Int.sub_mul, Int.one_mul, Int.mul_comm ((s.f * pre l s.o (i + 1)) / al l s.o), Int.mul_comm ((s.f * pre l s.o i) / al l s.o)] at hm2
        have e3 : s.f * pre l s.o (i + 1) = s.f * pre l s.o i + s.f * gr l i := by rw [e, Int.mul_add]
        omega
      · exact hle
    have more : ∀ c : Int, c * al l s.o ≤ s.f * gr l k → c ≤ pt l s.o s.f i := fun c hc => low c (Int.le_trans hc (Int.mul_le_mul_of_nonneg_left hg g.inv.f0))
    have ei : lastP l s i = pt l s.o s.f i := by unfold lastP; rw [if_pos hoi]
    rw [ei]
    by_cases hok : s.o k = true
    · have ek : lastP l s k = pt l s.o s.f k := by unfold lastP; rw [if_pos hok]
      rw [ek]
      exact more _ (cut_le g.inv hp hk hok (by omega))
    · have ek : lastP l s k = s.p k := by unfold lastP; rw [if_neg hok]
      rw [ek]
      have := more _ (g.c3 k hk (by simpa using hok) hgk)
      omega
/-- without any Max -/
theorem T_free {l : Rows} {F : Int} (hv : Vd l) (h0 : 0 ≤ F) (h1 : F ≤ 1000000) (hm : ∀ i, i < l.length → mx l i = 0) : (al l (s0 l F).o = 0 ∧ ∀ k, k ≤ l.length → sm (TT l F) k = 0) ∨ (0 < al l (s0 l F).o ∧ ∀ k, k ≤ l.length → sm (TT l F) k = (F * pre l (s0 l F).o k).tdiv (al l (s0 l F).o)) := by
  have hnc : op (ct l (s0 l F).o (s0 l F).f) l.length = [] := by
    cases h : op (ct l (s0 l F).o (s0 l F).f) l.length with
    | nil => rfl
    | cons i t =>
      exfalso
      have : i ∈ op (ct l (s0 l F).o (s0 l F).f) l.length := by rw [h]; simp
      rw [mem_op] at this
      exact (ct_open this.2).2.1 (hm i this.1)
  by_cases e : op (s0 l F).o l.length = []
  · left
    have eT : TT l F = fun _ => 0 := fin_empty l.length e
    have hz : ∀ k, k ≤ l.length → pre l (s0 l F).o k = 0 := by
      intro k hk
      induction k with
      | zero => rfl
      | succ k ih => simp only [pre]; rw [ih (by omega), if_neg (by rw [empty_closed e k (by omega)]; decide)]; rfl
    refine ⟨hz _ (Nat.le_refl _), fun k hk => ?_⟩
    rw [eT]
    clear hk
    induction k with
    | zero => rfl
    | succ k ih => simp only [sm]; omega
  · right
    have hi := inv0 (F := F) hv h0 h1
    refine ⟨al_pos hi e, fun k hk => ?_⟩
    have eT : TT l F = lastP l (s0 l F) := fin_last e (op_le _ _) hnc
    rw [eT]
    refine Eq.trans (sm_ext (fun i hik => ?_)) (sm_pt hi k)
    unfold lastP
    split
    · rfl
    · rfl
theorem usable_ok (l : Rows) (sp gp : Int) (hl : l.length ≤ 9223372036854775807) : SemF Try.prog 32 [.slc 0 3 0 l.length, .int .i64 sp, .int .i64 gp] ⟨1, 1, [(0, .arr [.int .i64, .int .i64, .int .i64] .rd (.recs l))]⟩ (fun v _ => v = .test (decide (ShOk l sp gp)) ∧ nameless v = true) := by
  refine SemF.test ?_
  refine enter tt_ok Try.func32 (nt := 30) (cd := body Try.f32) rfl rfl rfl rfl ?_
  intro _; refine ⟨fun g => ?_, fun g => ?_⟩
  rotate_left
  · have g := of_decide_eq_false (show decide ((l.length : Int) ≤ 80) = false from g)
    intro _
    exact ⟨false, .inl rfl, by rw [decide_eq_false (fun h : ShOk l sp gp => by have := h.1.1.2; omega)], rfl⟩
  intro _
  refine call_pure [(0, some 0)] (rvalid_ok l hl) rfl rfl rfl ?_ ?_ ?_
  · (repeat' first | exact trivial | exact rfl | refine And.intro ?_ ?_)
  · (repeat' first | exact trivial | exact rfl | refine And.intro ?_ ?_)
  intro v hv _
  subst hv
  intro _; refine ⟨fun g => ?_, fun g => ?_⟩
  rotate_left
  · have g : decide (Vd l) = false := g
    have g := of_decide_eq_false g
    intro _
    exact ⟨false, .inl rfl, by rw [decide_eq_false (fun h : ShOk l sp gp => g h.1)], rfl⟩
  have g : decide (Vd l) = true := g
  have g1 := of_decide_eq_true g
  intro _; refine ⟨fun g => ?_, fun g => ?_⟩
  rotate_left
  · have g := of_decide_eq_false (show decide (sp ≥ 0) = false from g)
    intro _
    exact ⟨false, .inl rfl, by rw [decide_eq_false (fun h : ShOk l sp gp => by have := h.2.1.1; omega)], rfl⟩
  have g2 := of_decide_eq_true (show decide (sp ≥ 0) = true from g)
  intro _; refine ⟨fun g => ?_, fun g => ?_⟩
  rotate_left
  · have g := of_decide_eq_false (show decide (sp ≤ 1000000) = false from g)
    intro _
    exact ⟨false, .inl rfl, by rw [decide_eq_false (fun h : ShOk l sp gp => by have := h.2.1.2; omega)], rfl⟩
  have g3 := of_decide_eq_true (show decide (sp ≤ 1000000) = true from g)
  intro _; refine ⟨fun g => ?_, fun g => ?_⟩
  rotate_left
  · have g := of_decide_eq_false (show decide (gp ≥ 0) = false from g)
    intro _
    exact ⟨false, .inl rfl, by rw [decide_eq_false (fun h : ShOk l sp gp => by have := h.2.2.1; omega)], rfl⟩
  have g4 := of_decide_eq_true (show decide (gp ≥ 0) = true from g)
  intro _
  refine ⟨_, .inr rfl, ?_, rfl⟩
  by_cases e : gp ≤ 100000
  · rw [decide_eq_true e, decide_eq_true (show ShOk l sp gp from ⟨g1, ⟨g2, g3⟩, g4, e⟩)]
  · rw [decide_eq_false e, decide_eq_false (fun h : ShOk l sp gp => e h.2.2.2)]
def LSQ (l : Rows) (sp gp : Int) : V → H → Prop := fun v h' => v = .tup [.grw 1 (sh l sp gp).1.length, .test (decide (ShOk l sp gp))] ∧ h' = ⟨2, 1, [(1, .arr [.int .i64] .own (.ints (sh l sp gp).1))]⟩
theorem lshare_ok (l : Rows) (sp gp : Int) (hl : l.length ≤ 9223372036854775807) : SemF Try.prog 33 [.slc 0 3 0 l.length, .int .i64 sp, .int .i64 gp] ⟨1, 1, [(0, .arr [.int .i64, .int .i64, .int .i64] .rd (.recs l))]⟩ (LSQ l sp gp) := by
  refine SemF.ret ?_
  refine enter tt_ok Try.func33 (nt := 27) (cd := body Try.f33) rfl rfl rfl rfl ?_
  intro _
  refine call_new [(0, some 0)] (share_ok l sp gp hl) rfl rfl rfl rfl ?_ ?_ ?_
  · (repeat' first | exact trivial | exact rfl | refine And.intro ?_ ?_)
  · (repeat' first | exact trivial | exact rfl | refine And.intro ?_ ?_)
  intro v h' hv
  obtain ⟨rfl, rfl⟩ := hv
  refine ⟨[(1, some 1)], 2, [(1, .arr [.int .i64] .own (.ints (sh l sp gp).1))], .tup [.grw 1 (sh l sp gp).1.length, .int .i64 (sh l sp gp).2], rfl, rfl, rfl, rfl, rfl, ?_, ?_, ?_⟩
  · (repeat' first | exact trivial | exact rfl | refine And.intro ?_ ?_)
  · (repeat' first | exact trivial | exact rfl | refine And.intro ?_ ?_)
  by_cases hs : ShOk l sp gp
  · have e1 : sh l sp gp = (tab l.length (fun i => ba l i + TT l (F0 l sp gp) i), 0) := by unfold sh; rw [if_pos hs]
    have eL : List.length (sh l sp gp).1 = l.length := by rw [e1]; exact tab_len _ _
    intro _; refine ⟨fun g => ?_, fun g => ?_⟩
    · intro _
      refine ⟨[(1, some 1)], .tup [.grw 1 (sh l sp gp).1.length, .test (decide (ShOk l sp gp))], ⟨2, 1, [(1, .arr [.int .i64] .own (.ints (sh l sp gp).1))]⟩, rfl, rfl, rfl, rfl, ?_, ?_, ⟨rfl, rfl⟩⟩
      · (repeat' first | exact trivial | exact rfl | refine And.intro ?_ ?_)
        show decide (ShOk l sp gp) = (((sh l sp gp).1.length : Int) == (l.length : Int))
        rw [eL, decide_eq_true hs]; simp
      · (repeat' first | exact trivial | exact rfl | refine And.intro ?_ ?_)
    · exfalso
      have g : ((sh l sp gp).2 == 0) = false := g
      rw [e1] at g; simp at g
  · have e1 : sh l sp gp = ([], 1) := by unfold sh; rw [if_neg hs]
    intro _; refine ⟨fun g => ?_, fun g => ?_⟩
    · exfalso
      have g : ((sh l sp gp).2 == 0) = true := g
      rw [e1] at g; simp at g
    · intro _
      refine ⟨[(1, some 1)], .tup [.grw 1 (sh l sp gp).1.length, .test (decide (ShOk l sp gp))], ⟨2, 1, [(1, .arr [.int .i64] .own (.ints (sh l sp gp).1))]⟩, rfl, rfl, rfl, rfl, ?_, ?_, ⟨rfl, rfl⟩⟩
      · (repeat' first | exact trivial | exact rfl | refine And.intro ?_ ?_)
        show decide (ShOk l sp gp) = false
        exact decide_eq_false hs
      · (repeat' first | exact trivial | exact rfl | refine And.intro ?_ ?_)
/-- what a law has in hand -/
theorem sh_eq {l : Rows} {sp gp : Int} (h : ShOk l sp gp) : (sh l sp gp).1 = tab l.length (fun i => ba l i + TT l (F0 l sp gp) i) := by unfold sh; rw [if_pos h]
theorem F0_bd {l : Rows} {sp gp : Int} (h : ShOk l sp gp) : 0 ≤ F0 l sp gp ∧ F0 l sp gp ≤ 1000000 ∧ 0 ≤ gp * ((l.length : Int) - 1) ∧ gp * ((l.length : Int) - 1) ≤ 6300000 := by
  obtain ⟨hv, hs, hg⟩ := h
  have h64 := hv.1
  have hgn : 0 ≤ gp * ((l.length : Int) - 1) ∧ gp * ((l.length : Int) - 1) ≤ 6300000 := by
    refine ⟨Int.mul_nonneg hg.1 (by omega), ?_⟩
    have h1 : gp * ((l.length : Int) - 1) ≤ 100000 * ((l.length : Int) - 1) := Int.mul_le_mul_of_nonneg_right hg.2 (by omega)
    omega
  have hF := bs_bd hv l.length (Nat.le_refl _)
  unfold F0; omega
theorem W_bd {l : Rows} {sp gp : Int} (h : ShOk l sp gp) {i : Nat} (hi : i < l.length) : 0 ≤ TT l (F0 l sp gp) i ∧ TT l (F0 l sp gp) i ≤ 1000000 ∧ 0 ≤ ba l i ∧ ba l i ≤ 1000000 := by
  have hF := F0_bd h
  have := fin_bd l.length _ (inv0 h.1 hF.1 hF.2.1) i hi
  have := (h.1.2 i hi).1
  unfold TT; omega
def rtab (n : Nat) (f : Nat → List D) : Rows := (List.range n).map f
theorem rtab_len (n : Nat) (f : Nat → List D) : List.length (rtab n f) = n := by simp [rtab]
theorem rtab_get {n : Nat} (f : Nat → List D) {i : Nat} (h : i < n) : (rtab n f).getD i [] = f i := by
  unfold rtab; rw [List.getD_eq_getElem?_getD, List.getElem?_map, List.getElem?_range h]; rfl
theorem rtab_app (k : Nat) (f : Nat → List D) : rtab (k + 1) f = rtab k f ++ [f k] := by
  unfold rtab; rw [List.range_succ, List.map_append]; rfl
def ff (l : Rows) (i : Nat) : List D := [D.n (ba l i), D.n (gr l i), D.n 0]
def free (l : Rows) : Rows := rtab l.length (ff l)
theorem free_len (l : Rows) : List.length (free l) = l.length := rtab_len _ _
theorem free_ba {l : Rows} {i : Nat} (h : i < l.length) : ba (free l) i = ba l i := by unfold ba free; rw [rtab_get _ h]; rfl
theorem free_gr {l : Rows} {i : Nat} (h : i < l.length) : gr (free l) i = gr l i := by unfold gr free; rw [rtab_get _ h]; rfl
theorem free_mx {l : Rows} {i : Nat} (h : i < l.length) : mx (free l) i = 0 := by unfold mx free; rw [rtab_get _ h]; rfl
theorem free_Vd {l : Rows} (h : Vd l) : Vd (free l) := by
  refine ⟨by rw [free_len]; exact h.1, fun i hi => ?_⟩
  rw [free_len] at hi
  have := h.2 i hi
  refine ⟨by rw [free_ba hi]; exact this.1, by rw [free_gr hi]; exact this.2.1, fun hm => absurd (free_mx hi) hm⟩
theorem free_bs {l : Rows} : ∀ k, k ≤ l.length → bs (free l) k = bs l k
  | 0, _ => rfl
  | k + 1, h => by simp only [bs]; rw [free_bs k (by omega), free_ba (by omega)]
theorem free_F0 (l : Rows) (sp gp : Int) : F0 (free l) sp gp = F0 l sp gp := by
  unfold F0; rw [free_len, free_bs _ (Nat.le_refl _)]
theorem free_pre {l : Rows} (hv : Vd l) (F : Int) : ∀ k, k ≤ l.length → pre (free l) (s0 (free l) F).o k = sm (gr l) k
  | 0, _ => rfl
  | k + 1, h => by
    simp only [pre, sm]
    rw [free_pre hv F k (by omega)]
    have e : (s0 (free l) F).o k = decide (0 < gr (free l) k) := rfl
    rw [e, free_gr (by omega)]
    have := (hv.2 k (by omega)).2.1
    by_cases g : 0 < gr l k
    · rw [if_pos (decide_eq_true g)]
    · rw [if_neg (by rw [decide_eq_false g]; decide)]; omega
/-- parts without any Max -/
theorem free_T {l : Rows} {sp gp : Int} (h : ShOk l sp gp) : (sm (gr l) l.length = 0 ∧ ∀ k, k ≤ l.length → sm (TT (free l) (F0 (free l) sp gp)) k = 0) ∨ (0 < sm (gr l) l.length ∧ ∀ k, k ≤ l.length → sm (TT (free l) (F0 (free l) sp gp)) k = (F0 l sp gp * sm (gr l) k).tdiv (sm (gr l) l.length)) := by
  have hF := F0_bd h
  have e := free_F0 l sp gp
  have ea : al (free l) (s0 (free l) (F0 (free l) sp gp)).o = sm (gr l) l.length := by unfold al; rw [free_len]; exact free_pre h.1 _ _ (Nat.le_refl _)
  rcases T_free (l := free l) (F := F0 (free l) sp gp) (free_Vd h.1) (by rw [e]; exact hF.1) (by rw [e]; exact hF.2.1) (fun i hi => free_mx (by rw [free_len] at hi; exact hi)) with ⟨a, b⟩ | ⟨a, b⟩
  · left
    rw [ea] at a
    exact ⟨a, fun k hk => b k (by rw [free_len]; exact hk)⟩
  · right
    rw [ea] at a b
    refine ⟨a, fun k hk => ?_⟩
    rw [b k (by rw [free_len]; exact hk), free_pre h.1 _ k hk, e]
theorem free_ok {l : Rows} {sp gp : Int} (h : ShOk l sp gp) : ShOk (free l) sp gp := ⟨free_Vd h.1, h.2⟩
theorem gr_mono {l : Rows} (hv : Vd l) {k : Nat} : k ≤ l.length → 0 ≤ sm (gr l) k ∧ sm (gr l) k ≤ k * 1000 := by
  induction k with
  | zero => intro _; simp [sm]
  | succ k ih =>
    intro h
    have := ih (by omega)
    have := (hv.2 k (by omega)).2.1
    simp only [sm]; omega
theorem left_ok (l : Rows) (sp gp : Int) (h : ShOk l sp gp) : SemF Try.prog 45 [.slc 0 3 0 l.length, .int .i64 sp, .int .i64 gp] ⟨1, 1, [(0, .arr [.int .i64, .int .i64, .int .i64] .rd (.recs l))]⟩ (fun v _ => v = .int .i64 (F0 l sp gp) ∧ nameless v = true) := by
  refine enter tt_ok Try.func45 (nt := 31) (cd := body Try.f45) rfl rfl rfl rfl ?_
  have hF := F0_bd h
  have h64 := h.1.1
  have hs := h.2.1
  have eL0 : IntKind.i64.wrap (sp - IntKind.i64.wrap (gp * IntKind.i64.wrap ((l.length : Int) - 1))) = sp - gp * ((l.length : Int) - 1) := by
    rw [wrapS ((l.length : Int) - 1) ⟨by omega, by omega⟩, wrapS (gp * ((l.length : Int) - 1)) ⟨by omega, by omega⟩, wrapS _ ⟨by omega, by omega⟩]
  intro _
  refine loop2 tt_ok [8, 7] [] 1 (fun k : Fin (l.length + 1) => [(8, .int .i64 (k : Nat)), (7, .int .i64 (sp - gp * ((l.length : Int) - 1) - bs l k))]) (fun _ => []) (fun k => l.length - k) ⟨0, by omega⟩ ?_
  intro _
  refine ⟨⟨th [] 1, rfl, rfl, rfl, rfl, rfl, rfl, ?_, ?_⟩, ?_⟩
  · (repeat' first | exact trivial | exact rfl | refine And.intro ?_ ?_)
    show sp - gp * ((l.length : Int) - 1) - 0 = IntKind.i64.wrap (sp - IntKind.i64.wrap (gp * IntKind.i64.wrap ((l.length : Int) - 1)))
    rw [eL0]; omega
  · (repeat' first | exact trivial | exact rfl | refine And.intro ?_ ?_)
  intro ⟨k, hk⟩
  have z : 0 + k = k := Nat.zero_add k
  intro _; refine ⟨fun g => ?_, fun g => ?_⟩
  · have hkl := of_decide_eq_true (show decide ((k : Int) < (l.length : Int)) = true from g)
    have hb := bs_bd h.1 k (by omega)
    have hbk := (h.1.2 k (by omega)).1
    intro _; refine ⟨show 0 ≤ (k : Int) ∧ (k : Int) < (l.length : Int) by omega, ?_⟩
    intro _; refine ⟨show 0 + (k : Int).toNat < l.length by omega, ?_⟩
    refine ⟨⟨k + 1, by omega⟩, by simp; omega, th [] 1, rfl, rfl, rfl, rfl, rfl, rfl, ?_, ?_⟩
    · (repeat' first | exact trivial | exact rfl | refine And.intro ?_ ?_)
      · exact (wrap_nat k (by omega)).symm
      · show sp - gp * ((l.length : Int) - 1) - bs l (k + 1) = IntKind.i64.wrap (sp - gp * ((l.length : Int) - 1) - bs l k - ba l (0 + k))
        rw [z, wrapS _ ⟨by omega, by omega⟩]; simp only [bs]; omega
    · (repeat' first | exact trivial | exact rfl | refine And.intro ?_ ?_)
  · have hkl := of_decide_eq_false (show decide ((k : Int) < (l.length : Int)) = false from g)
    have hkl : k = l.length := by omega
    subst hkl
    intro _
    refine ⟨?_, rfl⟩
    show V.int .i64 (max 0 (sp - gp * ((l.length : Int) - 1) - bs l l.length)) = _
    unfold F0
    rw [Int.max_comm]
def bt (n : Nat) (o : Nat → Bool) : Rows := rtab n (fun i => [D.b (o i)])
theorem bt_len (n : Nat) (o : Nat → Bool) : List.length (bt n o) = n := rtab_len _ _
theorem bt_get {n : Nat} (o : Nat → Bool) {i : Nat} (h : i < n) : (((bt n o).getD i []).getD 0 (.n 0)).bool = o i := by unfold bt; rw [rtab_get _ h]; rfl
theorem bt_ext {n : Nat} {o o' : Nat → Bool} (h : ∀ i, i < n → o i = o' i) : bt n o = bt n o' := by
  unfold bt rtab; exact List.map_congr_left (fun i hi => by rw [h i (List.mem_range.1 hi)])
theorem bt_set {n : Nat} (o : Nat → Bool) (k : Nat) (b : Bool) : (bt n o).set k [D.b b] = bt n (fun i => if i = k then b else o i) := by
  unfold bt rtab
  refine List.ext_getElem (by simp) (fun i h1 h2 => ?_)
  rw [List.getElem_set]
  simp only [List.getElem_map, List.getElem_range]
  by_cases e : k = i
  · rw [if_pos e, if_pos e.symm]
  · rw [if_neg e, if_neg (fun h => e h.symm)]
theorem bt_rep (n : Nat) : List.replicate n [D.b false] = bt n (fun _ => false) := by
  unfold bt rtab
  refine List.ext_getElem (by simp) (fun i h1 h2 => ?_)
  simp
def pn (l : Rows) (s : St) : Nat → Int := fun i => if s.o i = true then pt l s.o s.f i else 0
def PQ (l : Rows) (s : St) : V → H → Prop := fun v h' => v = .grw 2 l.length ∧ h' = ⟨3, 2, [(2, .arr [.int .i64] .own (.ints (tab l.length (pn l s))))]⟩
theorem parts_ok (l : Rows) (s : St) (hI : Inv l s) : SemF Try.prog 46 [.slc 0 3 0 l.length, .slc 1 1 0 l.length, .int .i64 s.f] ⟨2, 2, [(0, .arr [.int .i64, .int .i64, .int .i64] .rd (.recs l)), (1, .arr [.bool] .rd (.recs (bt l.length s.o)))]⟩ (PQ l s) := by
  refine SemF.ret ?_
  refine enter tt_ok Try.func46 (nt := 74) (cd := body Try.f46) rfl rfl rfl rfl ?_
  have hv := hI.v
  have h64 := hv.1
  have hf0 := hI.f0
  have hf1 := hI.f1
  intro _
  refine loop2 tt_ok [8, 7] [] 2 (fun k : Fin (l.length + 1) => [(8, .int .i64 (k : Nat)), (7, .int .i64 (pre l s.o k))]) (fun _ => []) (fun k => l.length - k) ⟨0, by omega⟩ ?_
  intro _
  refine ⟨⟨th [] 2, rfl, rfl, rfl, rfl, rfl, rfl, ?_, ?_⟩, ?_⟩
  · (repeat' first | exact trivial | exact rfl | refine And.intro ?_ ?_)
  · (repeat' first | exact trivial | exact rfl | refine And.intro ?_ ?_)
  intro ⟨k, hk⟩
  have z : 0 + k = k := Nat.zero_add k
  intro _; refine ⟨fun g => ?_, fun g => ?_⟩
  · have hkl := of_decide_eq_true (show decide ((k : Int) < (l.length : Int)) = true from g)
    have hkn : k < l.length := by omega
    have i1 : 0 ≤ (k : Int) ∧ (k : Int) < (l.length : Int) := by omega
    have i2 : 0 + (k : Int).toNat < l.length := by omega
    have i3 : 0 + (k : Int).toNat < List.length (bt l.length s.o) := by rw [bt_len]; omega
    have hb := pre_bd hv s.o k (by omega)
    have hgk := (hv.2 k (by omega)).2.1
    intro _; refine ⟨i1, ?_⟩
    intro _; refine ⟨i3, ?_⟩
    intro _; refine ⟨fun g => ?_, fun g => ?_⟩
    · have g : (((bt l.length s.o).getD (0 + k) []).getD 0 (.n 0)).bool = true := g
      rw [z, bt_get _ hkn] at g
      intro _; refine ⟨i1, ?_⟩
      intro _; refine ⟨i2, ?_⟩
      refine ⟨⟨k + 1, by omega⟩, by simp; omega, th [] 2, rfl, rfl, rfl, rfl, rfl, rfl, ?_, ?_⟩
      · (repeat' first | exact trivial | exact rfl | refine And.intro ?_ ?_)
        · exact (wrap_nat k (by omega)).symm
        · show pre l s.o (k + 1) = IntKind.i64.wrap (pre l s.o k + gr l (0 + k))
          rw [z, wrapS _ ⟨by omega, by omega⟩]; simp only [pre]; rw [if_pos g]
      · (repeat' first | exact trivial | exact rfl | refine And.intro ?_ ?_)
    · have g : (((bt l.length s.o).getD (0 + k) []).getD 0 (.n 0)).bool = false := g
      rw [z, bt_get _ hkn] at g
      refine ⟨⟨k + 1, by omega⟩, by simp; omega, th [] 2, rfl, rfl, rfl, rfl, rfl, rfl, ?_, ?_⟩
      · (repeat' first | exact trivial | exact rfl | refine And.intro ?_ ?_)
        · exact (wrap_nat k (by omega)).symm
        · show pre l s.o (k + 1) = pre l s.o k
          simp only [pre]; rw [if_neg (by rw [g]; decide)]; omega
      · (repeat' first | exact trivial | exact rfl | refine And.intro ?_ ?_)
  have hkl := of_decide_eq_false (show decide ((k : Int) < (l.length : Int)) = false from g)
  have hkl : k = l.length := by omega
  subst hkl
  intro _; refine ⟨⟨by omega, by omega, by omega⟩, ?_⟩
  intro _; refine ⟨rfl, ?_⟩
  intro _
  refine loop2 tt_ok [11, 10] [2] 3 (fun k : Fin (l.length + 1) => [(11, .int .i64 (k : Nat)), (10, .int .i64 (pre l s.o k))]) (fun k => [(2, .arr [.int .i64] .own (.ints (tab l.length (fun i => if i < (k : Nat) then pn l s i else 0))))]) (fun k => l.length - k) ⟨0, by omega⟩ ?_
  intro _
  refine ⟨⟨th [] 3, rfl, rfl, rfl, rfl, rfl, rfl, ?_, ?_⟩, ?_⟩
  · (repeat' first | exact trivial | exact rfl | refine And.intro ?_ ?_)
  · (repeat' first | exact trivial | exact rfl | refine And.intro ?_ ?_)
    have : (l.length : Int).toNat = l.length := by omega
    show tab l.length _ = List.replicate (l.length : Int).toNat 0
    rw [this, tab_zero]
    exact tab_ext (fun i _ => if_neg (by simp))
  intro ⟨k, hk⟩
  have z : 0 + k = k := Nat.zero_add k
  intro _; refine ⟨fun g => ?_, fun g => ?_⟩
  · have hkl := of_decide_eq_true (show decide ((k : Int) < (l.length : Int)) = true from g)
    have hkn : k < l.length := by omega
    have i1 : 0 ≤ (k : Int) ∧ (k : Int) < (l.length : Int) := by omega
    have i2 : 0 + (k : Int).toNat < l.length := by omega
    have i3 : 0 + (k : Int).toNat < List.length (bt l.length s.o) := by rw [bt_len]; omega
    have hb := pre_bd hv s.o k (by omega)
    have hgk := (hv.2 k (by omega)).2.1
    intro _; refine ⟨i1, ?_⟩
    intro _; refine ⟨i3, ?_⟩
    intro _; refine ⟨fun g => ?_, fun g => ?_⟩
    · have g : (((bt l.length s.o).getD (0 + k) []).getD 0 (.n 0)).bool = true := g
      rw [z, bt_get _ hkn] at g
      have ho := g
      have hp : 0 < al l s.o := al_pos hI (fun e => by have : k ∈ op s.o l.length := mem_op.2 ⟨hkn, ho⟩
                                                       rw [e] at this; cases this)
      have e3 : pre l s.o (k + 1) = pre l s.o k + gr l k := by simp only [pre]; rw [if_pos ho]
      have hf := fpre_nn hI (k := k + 1) (by omega)
      have hfk := fpre_nn hI (k := k) (by omega)
      have hpt := pt_bd hI hp (i := k) (by omega)
      intro _; refine ⟨fun _ => ?_, fun g => ?_⟩
      rotate_left
      · exfalso
        have g := of_decide_eq_false (show decide (al l s.o > 0) = false from g)
        omega
      intro _; refine ⟨i1, ?_⟩
      intro _; refine ⟨i2, ?_⟩
      intro _; refine ⟨show al l s.o ≠ 0 by omega, ?_⟩
      intro _; refine ⟨show al l s.o ≠ 0 by omega, ?_⟩
      intro _; refine ⟨show 0 ≤ (k : Int) ∧ (k : Int) < ((l.length : Int).toNat : Int) by omega, ?_⟩
      intro _; refine ⟨show (k : Int).toNat < List.length (tab l.length _) by rw [tab_len]; omega, ?_⟩
      intro _; refine ⟨by kernel_rfl, ?_⟩
      intro _; refine ⟨i1, ?_⟩
      intro _; refine ⟨i2, ?_⟩
      refine ⟨⟨k + 1, by omega⟩, by simp; omega, th [] 3, rfl, rfl, rfl, rfl, rfl, rfl, ?_, ?_⟩
      · (repeat' first | exact trivial | exact rfl | refine And.intro ?_ ?_)
        · exact (wrap_nat k (by omega)).symm
        · show pre l s.o (k + 1) = IntKind.i64.wrap (pre l s.o k + gr l (0 + k))
          rw [z, wrapS _ ⟨by omega, by omega⟩]; exact e3
      · (repeat' first | exact trivial | exact rfl | refine And.intro ?_ ?_)
        have eB : IntKind.i64.wrap (pre l s.o k + gr l (0 + k)) = pre l s.o (k + 1) := by
          rw [z, wrapS _ ⟨by omega, by omega⟩, e3]
        show tab l.length (fun i => if i < k + 1 then pn l s i else 0) = (tab l.length (fun i => if i < k then pn l s i else 0)).set k (IntKind.i64.wrap (IntKind.i64.wrap ((IntKind.i64.wrap (s.f * IntKind.i64.wrap (pre l s.o k + gr l (0 + k)))).tdiv (al l s.o)) - IntKind.i64.wrap ((IntKind.i64.wrap (s.f * pre l s.o k)).tdiv (al l s.o))))
        have h1 := td_nn hf.1 hp
        have h2 := td_nn hfk.1 hp
        have h3 : pt l s.o s.f k = (s.f * pre l s.o (k + 1)).tdiv (al l s.o) - (s.f * pre l s.o k).tdiv (al l s.o) := rfl
        have h4 := pre_mono hv s.o (k := l.length) (i := k) (by omega) (by omega)
        have h5 := td_mono hfk.1 (Int.mul_le_mul_of_nonneg_left h4 hf0) hp
        rw [tot hI hp] at h5
        rw [eB, wrapS (s.f * pre l s.o (k + 1)) ⟨by omega, by omega⟩, wrapS (s.f * pre l s.o k) ⟨by omega, by omega⟩, wrapS ((s.f * pre l s.o (k + 1)).tdiv (al l s.o)) ⟨by omega, by omega⟩, wrapS ((s.f * pre l s.o k).tdiv (al l s.o)) ⟨by omega, by omega⟩, ← h3, wrapS (pt l s.o s.f k) ⟨by omega, by omega⟩, tab_set]
        refine tab_ext (fun i _ => ?_)
        by_cases e : i = k
        · subst e; rw [if_pos (by omega), if_pos rfl]; unfold pn; rw [if_pos ho]
        · rw [if_neg e]
          by_cases e2 : i < k
          · rw [if_pos e2, if_pos (by omega)]
          · rw [if_neg e2, if_neg (by omega)]
    · have g : (((bt l.length s.o).getD (0 + k) []).getD 0 (.n 0)).bool = false := g
      rw [z, bt_get _ hkn] at g
      refine ⟨⟨k + 1, by omega⟩, by simp; omega, th [] 3, rfl, rfl, rfl, rfl, rfl, rfl, ?_, ?_⟩
      · (repeat' first | exact trivial | exact rfl | refine And.intro ?_ ?_)
        · exact (wrap_nat k (by omega)).symm
        · show pre l s.o (k + 1) = pre l s.o k
          simp only [pre]; rw [if_neg (by rw [g]; decide)]; omega
      · (repeat' first | exact trivial | exact rfl | refine And.intro ?_ ?_)
        show tab l.length (fun i => if i < k + 1 then pn l s i else 0) = tab l.length (fun i => if i < k then pn l s i else 0)
        refine tab_ext (fun i _ => ?_)
        by_cases e : i = k
        · subst e; rw [if_pos (by omega), if_neg (by omega)]; unfold pn; rw [if_neg (by rw [g]; decide)]
        · by_cases e2 : i < k
          · rw [if_pos e2, if_pos (by omega)]
          · rw [if_neg e2, if_neg (by omega)]
  have hkl := of_decide_eq_false (show decide ((k : Int) < (l.length : Int)) = false from g)
  have hkl : k = l.length := by omega
  subst hkl
  intro _
  refine ⟨[(2, some 2)], .grw 2 l.length, ⟨3, 2, [(2, .arr [.int .i64] .own (.ints (tab l.length (pn l s))))]⟩, rfl, rfl, rfl, rfl, ?_, ?_, ⟨rfl, rfl⟩⟩
  · (repeat' first | exact trivial | exact rfl | refine And.intro ?_ ?_)
  · (repeat' first | exact trivial | exact rfl | refine And.intro ?_ ?_)
    exact tab_ext (fun i hi => (if_pos hi).symm)
def ac (l : Rows) (s : St) : Nat → Bool
  | 0 => false
  | k + 1 => ac l s k || ct l s.o s.f k
theorem ac_op (l : Rows) (s : St) : ∀ k, ac l s k = decide (op (ct l s.o s.f) k ≠ [])
  | 0 => by simp [ac, op]
  | k + 1 => by
    simp only [ac]
    rw [ac_op l s k, op_succ]
    by_cases e : ct l s.o s.f k = true
    · rw [if_pos e, e]; simp
    · rw [if_neg e]; simp at e; rw [e]; simp
def ok' (l : Rows) (s : St) (k : Nat) : Nat → Bool := fun i => if i < k then s.o i && !ct l s.o s.f i else s.o i
def pk (l : Rows) (s : St) (k : Nat) : Nat → Int := fun i => if i < k ∧ ct l s.o s.f i = true then mx l i - ba l i else s.p i
abbrev RI (l : Rows) (T : Nat → Int) := { x : St × Nat // Inv l x.1 ∧ (op x.1.o l.length).length ≤ x.2 ∧ (∀ i, i < l.length → fin l x.2 x.1 i = T i) }
theorem fin_last2 {l : Rows} {s : St} {k : Nat} (hk : (op s.o l.length).length ≤ k) (hc : op (ct l s.o s.f) l.length = []) {i : Nat} (hi : i < l.length) : fin l k s i = lastP l s i := by
  by_cases e : op s.o l.length = []
  · rw [fin_empty k e]; unfold lastP; rw [if_neg (by rw [empty_closed e i hi]; decide)]
  · rw [fin_last e hk hc]
theorem cs_f2 {l : Rows} {s : St} (h : Inv l s) : ∀ k, k ≤ l.length → 0 ≤ cs l s.o s.f k ∧ cs l s.o s.f k ≤ s.f := by
  by_cases e : op s.o l.length = []
  · have h0 := h.f0
    intro k hk
    have : cs l s.o s.f k = 0 := by
      induction k with
      | zero => rfl
      | succ k ih =>
        simp only [cs]
        rw [ih (by omega), if_neg (fun h2 => by have := (ct_open h2).1; rw [empty_closed e k (by omega)] at this; cases this)]
        rfl
    omega
  · exact fun k hk => cs_f h (al_pos h e) hk
set_option maxHeartbeats 4000000 in
theorem rshare_ok (l : Rows) (sp gp : Int) (hl : l.length ≤ 9223372036854775807) : SemF Try.prog 26 [.slc 0 3 0 l.length, .int .i64 sp, .int .i64 gp] ⟨1, 1, [(0, .arr [.int .i64, .int .i64, .int .i64] .rd (.recs l))]⟩ (TQ l sp gp) := by
  refine SemF.ret ?_
  refine enter tt_ok Try.func26 (nt := 155) (cd := body Try.f26) rfl rfl rfl rfl ?_
  have bad : ¬ ShOk l sp gp → ∀ nx hx, Nat.ble 1 nx = true → Ret 1 (TQ l sp gp) (.tup [.nils, .int .i64 1]) ⟨nx, 1, hx⟩ := fun he nx hx hn => by
    have e1 : sh l sp gp = ([], 1) := by unfold sh; rw [if_neg he]
    refine ⟨[(1, none)], .tup [.grw 1 0, .int .i64 1], ⟨2, 1, [(1, .arr [.int .i64] .own (.ints []))]⟩, rfl, rfl, rfl, rfl, ?_, ?_, ?_, ?_⟩
    · (repeat' first | exact trivial | exact rfl | refine And.intro ?_ ?_)
    · (repeat' first | exact trivial | exact rfl | refine And.intro ?_ ?_)
    · rw [e1]; rfl
    · rw [e1]
  intro _
  refine call_pure [(0, some 0)] (rvalid_ok l hl) rfl rfl rfl ?_ ?_ ?_
  · (repeat' first | exact trivial | exact rfl | refine And.intro ?_ ?_)
  · (repeat' first | exact trivial | exact rfl | refine And.intro ?_ ?_)
  intro v hv _
  subst hv
  intro _
  refine in_test _ _ _ _ _ ?_
  intro _
  refine in_test _ _ _ _ _ ?_
  intro _; refine ⟨fun g => ?_, fun g => ?_⟩
  · have g : (!decide (Vd l)) = true := g
    rw [Bool.not_eq_true'] at g
    have g := of_decide_eq_false g
    intro _
    exact bad (fun h => g h.1) _ _ rfl
  have g : (!decide (Vd l)) = false := g
  rw [Bool.not_eq_false'] at g
  have hv := of_decide_eq_true g
  intro _; refine ⟨fun g => ?_, fun g => ?_⟩
  · have g : (!decide (0 ≤ sp ∧ sp ≤ 1000000)) = true := g
    rw [Bool.not_eq_true'] at g
    have g := of_decide_eq_false g
    intro _
    exact bad (fun h => g h.2.1) _ _ rfl
  have g : (!decide (0 ≤ sp ∧ sp ≤ 1000000)) = false := g
  rw [Bool.not_eq_false'] at g
  have hs := of_decide_eq_true g
  intro _; refine ⟨fun g => ?_, fun g => ?_⟩
  · have g : (!decide (0 ≤ gp ∧ gp ≤ 100000)) = true := g
    rw [Bool.not_eq_true'] at g
    have g := of_decide_eq_false g
    intro _
    exact bad (fun h => g h.2.2) _ _ rfl
  have g : (!decide (0 ≤ gp ∧ gp ≤ 100000)) = false := g
  rw [Bool.not_eq_false'] at g
  have hg := of_decide_eq_true g
  have hsh : ShOk l sp gp := ⟨hv, hs, hg⟩
  have e1 : sh l sp gp = (tab l.length (fun i => ba l i + TT l (F0 l sp gp) i), 0) := by unfold sh; rw [if_pos hsh]
  have h64 := hv.1
  have hF := F0_bd hsh
  intro _; refine ⟨⟨by omega, by omega, by omega⟩, ?_⟩
  intro _
  refine loop2 tt_ok [12] [1] 2 (fun k : Fin (l.length + 1) => [(12, .int .i64 (k : Nat))]) (fun k => [(1, .arr [.bool] .own (.recs (bt l.length (fun i => if i < (k : Nat) then decide (0 < gr l i) else false))))]) (fun k => l.length - k) ⟨0, by omega⟩ ?_
  intro _
  refine ⟨⟨th [] 2, rfl, rfl, rfl, rfl, rfl, rfl, ?_, ?_⟩, ?_⟩
  · (repeat' first | exact trivial | exact rfl | refine And.intro ?_ ?_)
  · (repeat' first | exact trivial | exact rfl | refine And.intro ?_ ?_)
    have : (l.length : Int).toNat = l.length := by omega
    show bt l.length _ = List.replicate (l.length : Int).toNat [D.b false]
    rw [this, bt_rep]
    exact bt_ext (fun i _ => if_neg (by simp))
  intro ⟨k, hk⟩
  have z : 0 + k = k := Nat.zero_add k
  intro _; refine ⟨fun g => ?_, fun g => ?_⟩
  · have hkl := of_decide_eq_true (show decide ((k : Int) < (l.length : Int)) = true from g)
    intro _; refine ⟨show 0 ≤ (k : Int) ∧ (k : Int) < (l.length : Int) by omega, ?_⟩
    intro _; refine ⟨show 0 + (k : Int).toNat < l.length by omega, ?_⟩
    intro _; refine ⟨show 0 ≤ (k : Int) ∧ (k : Int) < ((l.length : Int).toNat : Int) by omega, ?_⟩
    intro _; refine ⟨show (k : Int).toNat < List.length (bt l.length _) by rw [bt_len]; omega, ?_⟩
    refine ⟨⟨k + 1, by omega⟩, by simp; omega, th [] 2, rfl, rfl, rfl, rfl, rfl, rfl, ?_, ?_⟩
    · (repeat' first | exact trivial | exact rfl | refine And.intro ?_ ?_)
      exact (wrap_nat k (by omega)).symm
    · (repeat' first | exact trivial | exact rfl | refine And.intro ?_ ?_)
      show bt l.length (fun i => if i < k + 1 then decide (0 < gr l i) else false) = (bt l.length (fun i => if i < k then decide (0 < gr l i) else false)).set k [D.b (decide (gr l (0 + k) > 0))]
      rw [z, bt_set]
      refine bt_ext (fun i _ => ?_)
      by_cases e : i = k
      · subst e; rw [if_pos (by omega), if_pos rfl]
      · rw [if_neg e]
        by_cases e2 : i < k
        · rw [if_pos e2, if_pos (by omega)]
        · rw [if_neg e2, if_neg (by omega)]
  have hkl := of_decide_eq_false (show decide ((k : Int) < (l.length : Int)) = false from g)
  have hkl : k = l.length := by omega
  subst hkl
  intro _; refine ⟨⟨by omega, by omega, by omega⟩, ?_⟩
  intro _; refine ⟨rfl, ?_⟩
  intro _
  refine call_pure [(0, some 0)] (left_ok l sp gp hsh) rfl rfl rfl ?_ ?_ ?_
  · (repeat' first | exact trivial | exact rfl | refine And.intro ?_ ?_)
  · (repeat' first | exact trivial | exact rfl | refine And.intro ?_ ?_)
  intro v hv _
  subst hv
  intro _
  refine loop2 tt_ok [14] [1, 2] 3 (fun x : RI l (TT l (F0 l sp gp)) => [(14, .int .i64 x.1.1.f)]) (fun x => [(1, .arr [.bool] .own (.recs (bt l.length x.1.1.o))), (2, .arr [.int .i64] .own (.ints (tab l.length x.1.1.p)))]) (fun x => x.1.2) ⟨(s0 l (F0 l sp gp), l.length), inv0 hv hF.1 hF.2.1, op_le _ _, fun _ _ => rfl⟩ ?_
  intro _
  refine ⟨⟨th [] 3, rfl, rfl, rfl, rfl, rfl, rfl, ?_, ?_⟩, ?_⟩
  · (repeat' first | exact trivial | exact rfl | refine And.intro ?_ ?_)
  · (repeat' first | exact trivial | exact rfl | refine And.intro ?_ ?_)
    · exact bt_ext (fun i hi => (if_pos hi).symm)
    · have : (l.length : Int).toNat = l.length := by omega
      show tab l.length _ = List.replicate (l.length : Int).toNat 0
      rw [this, tab_zero]
      rfl
  intro ⟨⟨s, kf⟩, hI, hc, hT⟩
  have hI : Inv l s := hI
  have hc : (op s.o l.length).length ≤ kf := hc
  have hT : ∀ i, i < l.length → fin l kf s i = TT l (F0 l sp gp) i := hT
  have hf0 := hI.f0
  have hf1 := hI.f1
  have hnat : (l.length : Int).toNat = l.length := by omega
  intro _
  refine call_new [(0, some 0), (1, some 1)] (parts_ok l s hI) rfl rfl rfl rfl ?_ ?_ ?_
  · (repeat' first | exact trivial | exact rfl | refine And.intro ?_ ?_)
  · (repeat' first | exact trivial | exact rfl | refine And.intro ?_ ?_)
  intro v h' hv
  obtain ⟨rfl, rfl⟩ := hv
  refine ⟨[(3, some 2)], 4, [(3, .arr [.int .i64] .own (.ints (tab l.length (pn l s))))], .grw 3 l.length, rfl, rfl, rfl, rfl, rfl, ?_, ?_, ?_⟩
  · (repeat' first | exact trivial | exact rfl | refine And.intro ?_ ?_)
  · (repeat' first | exact trivial | exact rfl | refine And.intro ?_ ?_)
  intro _
  refine loop2 tt_ok [17, 16, 14] [1, 2] 4 (fun k : Fin (l.length + 1) => [(17, .int .i64 (k : Nat)), (16, .test (ac l s k)), (14, .int .i64 (s.f - cs l s.o s.f k))]) (fun k => [(1, .arr [.bool] .own (.recs (bt l.length (ok' l s k)))), (2, .arr [.int .i64] .own (.ints (tab l.length (pk l s k))))]) (fun k => l.length - k) ⟨0, by omega⟩ ?_
  intro _
  refine ⟨⟨th [] 4, rfl, rfl, rfl, rfl, rfl, rfl, ?_, ?_⟩, ?_⟩
  · (repeat' first | exact trivial | exact rfl | refine And.intro ?_ ?_)
    show s.f - 0 = s.f
    omega
  · (repeat' first | exact trivial | exact rfl | refine And.intro ?_ ?_)
  intro ⟨k, hk⟩
  have z : 0 + k = k := Nat.zero_add k
  intro _; refine ⟨fun g => ?_, fun g => ?_⟩
  · have hkl := of_decide_eq_true (show decide ((k : Int) < (l.length : Int)) = true from g)
    have hkn : k < l.length := by omega
    have i1 : 0 ≤ (k : Int) ∧ (k : Int) < (l.length : Int) := by omega
    have i2 : 0 + (k : Int).toNat < l.length := by omega
    have o1 : 0 ≤ (k : Int) ∧ (k : Int) < ((l.length : Int).toNat : Int) := by omega
    have o2 : (k : Int).toNat < List.length (bt l.length (ok' l s k)) := by rw [bt_len]; omega
    have p2 : (k : Int).toNat < List.length (tab l.length (pk l s k)) := by rw [tab_len]; omega
    have n2 : (k : Int).toNat < List.length (tab l.length (pn l s)) := by rw [tab_len]; omega
    have eo : (((bt l.length (ok' l s k)).getD k []).getD 0 (.n 0)).bool = s.o k := by
      rw [bt_get _ hkn]; unfold ok'; rw [if_neg (by omega)]
    have ekw := (wrap_nat k (by omega)).symm
    -- a track that isn't cut
    have stay : ct l s.o s.f k = false → ac l s (k + 1) = ac l s k ∧ cs l s.o s.f (k + 1) = cs l s.o s.f k ∧ bt l.length (ok' l s (k + 1)) = bt l.length (ok' l s k) ∧ tab l.length (pk l s (k + 1)) = tab l.length (pk l s k) := fun h => by
      refine ⟨by simp only [ac]; rw [h]; simp, by simp only [cs]; rw [if_neg (by rw [h]; decide)]; omega, bt_ext (fun i _ => ?_), tab_ext (fun i _ => ?_)⟩
      · unfold ok'
        by_cases e : i = k
        · subst e; rw [if_pos (by omega), if_neg (by omega), h]; simp
        · by_cases e2 : i < k
          · rw [if_pos e2, if_pos (by omega)]
          · rw [if_neg e2, if_neg (by omega)]
      · unfold pk
        by_cases e : i = k
        · subst e; rw [if_neg (by rw [h]; simp), if_neg (by omega)]
        · by_cases e2 : i < k ∧ ct l s.o s.f i = true
          · rw [if_pos e2, if_pos ⟨by omega, e2.2⟩]
          · rw [if_neg e2, if_neg (fun h2 => e2 ⟨by omega, h2.2⟩)]
    intro _; refine ⟨o1, ?_⟩
    intro _; refine ⟨o2, ?_⟩
    intro _; refine ⟨fun g => ?_, fun g => ?_⟩
    rotate_left
    · have g : (((bt l.length (ok' l s k)).getD k []).getD 0 (.n 0)).bool = false := g
      rw [eo] at g
      obtain ⟨s1, s2, s3, s4⟩ := stay (by unfold ct; rw [g]; rfl)
      intro _; refine ⟨by kernel_rfl, ?_⟩
      refine ⟨⟨k + 1, by omega⟩, by simp; omega, th [] 4, rfl, rfl, rfl, rfl, rfl, rfl, ?_, ?_⟩
      · (repeat' first | exact trivial | exact rfl | refine And.intro ?_ ?_)
        · exact ekw
        · exact s1
        · show s.f - cs l s.o s.f (k + 1) = s.f - cs l s.o s.f k
          rw [s2]
      · (repeat' first | exact trivial | exact rfl | refine And.intro ?_ ?_)
        · exact s3
        · exact s4
    have g : (((bt l.length (ok' l s k)).getD k []).getD 0 (.n 0)).bool = true := g
    rw [eo] at g
    have ho := g
    have hp : 0 < al l s.o := al_pos hI (fun e => by have : k ∈ op s.o l.length := mem_op.2 ⟨hkn, ho⟩
                                                     rw [e] at this; cases this)
    have hpt := pt_bd hI hp hkn
    have hcs := cs_f2 hI k (by omega)
    have eN : (tab l.length (pn l s)).getD k 0 = pt l s.o s.f k := by rw [tab_get _ hkn]; unfold pn; rw [if_pos ho]
    have hbk := (hv.2 k hkn).1
    intro _; refine ⟨i1, ?_⟩
    intro _; refine ⟨i2, ?_⟩
    intro _; refine ⟨fun g => ?_, fun g => ?_⟩
    rotate_left
    · have g : (mx l (0 + k) != 0) = false := g
      rw [z] at g
      have g4 : mx l k = 0 := by simpa using g
      obtain ⟨s1, s2, s3, s4⟩ := stay (by unfold ct; rw [ho, decide_eq_false (show ¬ mx l k ≠ 0 from fun h => h g4)]; rfl)
      intro _; refine ⟨by kernel_rfl, ?_⟩
      refine ⟨⟨k + 1, by omega⟩, by simp; omega, th [] 4, rfl, rfl, rfl, rfl, rfl, rfl, ?_, ?_⟩
      · (repeat' first | exact trivial | exact rfl | refine And.intro ?_ ?_)
        · exact ekw
        · exact s1
        · show s.f - cs l s.o s.f (k + 1) = s.f - cs l s.o s.f k
          rw [s2]
      · (repeat' first | exact trivial | exact rfl | refine And.intro ?_ ?_)
        · exact s3
        · exact s4
    have g : (mx l (0 + k) != 0) = true := g
    rw [z] at g
    have g4 : mx l k ≠ 0 := by simpa using g
    have hmk := (hv.2 k hkn).2.2 g4
    intro _; refine ⟨i1, ?_⟩
    intro _; refine ⟨i2, ?_⟩
    intro _; refine ⟨i1, ?_⟩
    intro _; refine ⟨n2, ?_⟩
    intro _; refine ⟨i1, ?_⟩
    intro _; refine ⟨i2, ?_⟩
    intro _; refine ⟨by kernel_rfl, ?_⟩
    have eS : IntKind.i64.wrap (ba l (0 + k) + (tab l.length (pn l s)).getD k 0) = ba l k + pt l s.o s.f k := by
      rw [eN, z]; exact wrapS _ ⟨by omega, by omega⟩
    intro _; refine ⟨fun g => ?_, fun g => ?_⟩
    rotate_left
    · have g : decide (IntKind.i64.wrap (ba l (0 + k) + (tab l.length (pn l s)).getD k 0) > mx l (0 + k)) = false := g
      rw [eS, z] at g
      obtain ⟨s1, s2, s3, s4⟩ := stay (by unfold ct; rw [ho, g]; simp)
      refine ⟨⟨k + 1, by omega⟩, by simp; omega, th [] 4, rfl, rfl, rfl, rfl, rfl, rfl, ?_, ?_⟩
      · (repeat' first | exact trivial | exact rfl | refine And.intro ?_ ?_)
        · exact ekw
        · exact s1
        · show s.f - cs l s.o s.f (k + 1) = s.f - cs l s.o s.f k
          rw [s2]
      · (repeat' first | exact trivial | exact rfl | refine And.intro ?_ ?_)
        · exact s3
        · exact s4
    have g : decide (IntKind.i64.wrap (ba l (0 + k) + (tab l.length (pn l s)).getD k 0) > mx l (0 + k)) = true := g
    rw [eS, z] at g
    have hct : ct l s.o s.f k = true := by unfold ct; rw [ho, decide_eq_true g4, g]; rfl
    intro _; refine ⟨i1, ?_⟩
    intro _; refine ⟨i2, ?_⟩
    intro _; refine ⟨i1, ?_⟩
    intro _; refine ⟨i2, ?_⟩
    intro _; refine ⟨o1, ?_⟩
    intro _; refine ⟨p2, ?_⟩
    intro _; refine ⟨by kernel_rfl, ?_⟩
    intro _; refine ⟨o1, ?_⟩
    intro _; refine ⟨show (k : Int).toNat < List.length ((tab l.length (pk l s k)).set _ _) by rw [List.length_set, tab_len]; omega, ?_⟩
    intro _; refine ⟨o1, ?_⟩
    intro _; refine ⟨o2, ?_⟩
    have eV : IntKind.i64.wrap (mx l (0 + k) - ba l (0 + k)) = mx l k - ba l k := by rw [z]; exact wrapS _ ⟨by omega, by omega⟩
    refine ⟨⟨k + 1, by omega⟩, by simp; omega, th [] 4, rfl, rfl, rfl, rfl, rfl, rfl, ?_, ?_⟩
    · (repeat' first | exact trivial | exact rfl | refine And.intro ?_ ?_)
      · exact ekw
      · show ac l s (k + 1) = true
        simp only [ac]; rw [hct]; simp
      · show s.f - cs l s.o s.f (k + 1) = IntKind.i64.wrap (s.f - cs l s.o s.f k - ((tab l.length (pk l s k)).set k (IntKind.i64.wrap (mx l (0 + k) - ba l (0 + k)))).getD k 0)
        rw [eV, tab_cell _ hkn, wrapS _ ⟨by omega, by omega⟩]
        simp only [cs]; rw [if_pos hct]; omega
    · (repeat' first | exact trivial | exact rfl | refine And.intro ?_ ?_)
      · show bt l.length (ok' l s (k + 1)) = (bt l.length (ok' l s k)).set k [D.b false]
        rw [bt_set]
        refine bt_ext (fun i _ => ?_)
        unfold ok'
        by_cases e : i = k
        · subst e; rw [if_pos (by omega), if_pos rfl, hct]; simp
        · rw [if_neg e]
          by_cases e2 : i < k
          · rw [if_pos e2, if_pos (by omega)]
          · rw [if_neg e2, if_neg (by omega)]
      · show tab l.length (pk l s (k + 1)) = (tab l.length (pk l s k)).set k (IntKind.i64.wrap (mx l (0 + k) - ba l (0 + k)))
        rw [eV, tab_set]
        refine tab_ext (fun i _ => ?_)
        unfold pk
        by_cases e : i = k
        · subst e; rw [if_pos ⟨by omega, hct⟩, if_pos rfl]
        · rw [if_neg e]
          by_cases e2 : i < k ∧ ct l s.o s.f i = true
          · rw [if_pos e2, if_pos ⟨by omega, e2.2⟩]
          · rw [if_neg e2, if_neg (fun h2 => e2 ⟨by omega, h2.2⟩)]
  have hkl := of_decide_eq_false (show decide ((k : Int) < (l.length : Int)) = false from g)
  have hkl : k = l.length := by omega
  subst hkl
  intro _; refine ⟨fun g => ?_, fun g => ?_⟩
  · have g : ac l s l.length = true := g
    rw [ac_op] at g
    have hnc := of_decide_eq_true g
    have hne : op s.o l.length ≠ [] := fun e => hnc (by
      cases h : op (ct l s.o s.f) l.length with
      | nil => rfl
      | cons i t =>
        exfalso
        have h2 : i ∈ op (ct l s.o s.f) l.length := by rw [h]; simp
        rw [mem_op] at h2
        have h3 := (ct_open h2.2).1
        rw [empty_closed e i h2.1] at h3; cases h3)
    have hp := al_pos hI hne
    obtain ⟨k', h1, h2, h3⟩ := fin_next hne hc hnc
    refine ⟨⟨(step l s, k'), hI.step hp, h3, fun i hi => by rw [← h2]; exact hT i hi⟩, h1, th [] 3, rfl, rfl, rfl, rfl, rfl, rfl, ?_, ?_⟩
    · (repeat' first | exact trivial | exact rfl | refine And.intro ?_ ?_)
    · (repeat' first | exact trivial | exact rfl | refine And.intro ?_ ?_)
      · show bt l.length (step l s).o = bt l.length (ok' l s l.length)
        exact bt_ext (fun i hi => by unfold ok'; rw [if_pos hi]; rfl)
      · show tab l.length (step l s).p = tab l.length (pk l s l.length)
        refine tab_ext (fun i hi => ?_)
        show (if ct l s.o s.f i = true then mx l i - ba l i else s.p i) = _
        unfold pk
        by_cases e : ct l s.o s.f i = true
        · rw [if_pos e, if_pos ⟨hi, e⟩]
        · rw [if_neg e, if_neg (fun h => e h.2)]
  have g : ac l s l.length = false := g
  rw [ac_op] at g
  have hnc : op (ct l s.o s.f) l.length = [] := Decidable.not_not.1 (of_decide_eq_false g)
  have hTl : ∀ i, i < l.length → TT l (F0 l sp gp) i = lastP l s i := fun i hi => by rw [← hT i hi]; exact fin_last2 hc hnc hi
  have hTb : ∀ i, i < l.length → 0 ≤ lastP l s i ∧ lastP l s i ≤ 1000000 := fun i hi => by rw [← hTl i hi]; have := W_bd hsh hi; omega
  have hcf : ∀ i, i < l.length → ct l s.o s.f i = false := empty_closed hnc
  have eok : bt l.length (ok' l s l.length) = bt l.length s.o := bt_ext (fun i hi => by unfold ok'; rw [if_pos hi, hcf i hi]; simp)
  intro _
  refine loop2 tt_ok [18] [2] 4 (fun k : Fin (l.length + 1) => [(18, .int .i64 (k : Nat))]) (fun k => [(2, .arr [.int .i64] .own (.ints (tab l.length (fun i => if i < (k : Nat) then ba l i + lastP l s i else s.p i))))]) (fun k => l.length - k) ⟨0, by omega⟩ ?_
  intro _
  refine ⟨⟨th [] 4, rfl, rfl, rfl, rfl, rfl, rfl, ?_, ?_⟩, ?_⟩
  · (repeat' first | exact trivial | exact rfl | refine And.intro ?_ ?_)
  · (repeat' first | exact trivial | exact rfl | refine And.intro ?_ ?_)
    show tab l.length (fun i => if i < 0 then ba l i + lastP l s i else s.p i) = tab l.length (pk l s l.length)
    refine tab_ext (fun i hi => ?_)
    unfold pk
    rw [if_neg (by omega), if_neg (by rw [hcf i hi]; simp)]
  intro ⟨k, hk⟩
  have z : 0 + k = k := Nat.zero_add k
  intro _; refine ⟨fun g => ?_, fun g => ?_⟩
  · have hkl := of_decide_eq_true (show decide ((k : Int) < (l.length : Int)) = true from g)
    have hkn : k < l.length := by omega
    have i1 : 0 ≤ (k : Int) ∧ (k : Int) < (l.length : Int) := by omega
    have i2 : 0 + (k : Int).toNat < l.length := by omega
    have o1 : 0 ≤ (k : Int) ∧ (k : Int) < ((l.length : Int).toNat : Int) := by omega
    have o2 : (k : Int).toNat < List.length (bt l.length (ok' l s l.length)) := by rw [bt_len]; omega
    have n2 : (k : Int).toNat < List.length (tab l.length (pn l s)) := by rw [tab_len]; omega
    have t2 : (k : Int).toNat < List.length (tab l.length (fun i => if i < k then ba l i + lastP l s i else s.p i)) := by rw [tab_len]; omega
    have eo : (((bt l.length (ok' l s l.length)).getD k []).getD 0 (.n 0)).bool = s.o k := by rw [eok, bt_get _ hkn]
    have hbk := (hv.2 k hkn).1
    have htb := hTb k hkn
    have stepT : ∀ v, v = ba l k + lastP l s k → ∀ f : Nat → Int, (∀ i, i < l.length → i ≠ k → f i = if i < k then ba l i + lastP l s i else s.p i) → tab l.length (fun i => if i < k + 1 then ba l i + lastP l s i else s.p i) = (tab l.length f).set k v := fun v hv2 f hf => by
      rw [tab_set]
      refine tab_ext (fun i hi => ?_)
      by_cases e : i = k
      · subst e; rw [if_pos (by omega), if_pos rfl, hv2]
      · rw [if_neg e, hf i hi e]
        by_cases e2 : i < k
        · rw [if_pos e2, if_pos (by omega)]
        · rw [if_neg e2, if_neg (by omega)]
    intro _; refine ⟨o1, ?_⟩
    intro _; refine ⟨o2, ?_⟩
    intro _; refine ⟨fun g => ?_, fun g => ?_⟩
    · have g : (((bt l.length (ok' l s l.length)).getD k []).getD 0 (.n 0)).bool = true := g
      rw [eo] at g
      have eL : pn l s k = lastP l s k := by unfold pn lastP; rw [if_pos g, if_pos g]
      intro _; refine ⟨i1, ?_⟩
      intro _; refine ⟨n2, ?_⟩
      intro _; refine ⟨o1, ?_⟩
      intro _; refine ⟨t2, ?_⟩
      intro _; refine ⟨o1, ?_⟩
      intro _; refine ⟨show (k : Int).toNat < List.length ((tab l.length _).set _ _) by rw [List.length_set, tab_len]; omega, ?_⟩
      intro _; refine ⟨i1, ?_⟩
      intro _; refine ⟨i2, ?_⟩
      intro _; refine ⟨o1, ?_⟩
      intro _; refine ⟨show (k : Int).toNat < List.length ((tab l.length _).set _ _) by rw [List.length_set, tab_len]; omega, ?_⟩
      intro _; refine ⟨by kernel_rfl, ?_⟩
      refine ⟨⟨k + 1, by omega⟩, by simp; omega, th [] 4, rfl, rfl, rfl, rfl, rfl, rfl, ?_, ?_⟩
      · (repeat' first | exact trivial | exact rfl | refine And.intro ?_ ?_)
        exact (wrap_nat k (by omega)).symm
      · (repeat' first | exact trivial | exact rfl | refine And.intro ?_ ?_)
        show tab l.length (fun i => if i < k + 1 then ba l i + lastP l s i else s.p i) = ((tab l.length (fun i => if i < k then ba l i + lastP l s i else s.p i)).set k ((tab l.length (pn l s)).getD k 0)).set k (IntKind.i64.wrap (((tab l.length (fun i => if i < k then ba l i + lastP l s i else s.p i)).set k ((tab l.length (pn l s)).getD k 0)).getD k 0 + ba l (0 + k)))
        rw [tab_cell _ hkn, tab_get _ hkn, z, eL, wrapS _ ⟨by omega, by omega⟩, tab_set]
        refine stepT _ (by omega) _ (fun i hi e => ?_)
        rw [if_neg e]
    · have g : (((bt l.length (ok' l s l.length)).getD k []).getD 0 (.n 0)).bool = false := g
      rw [eo] at g
      have eL : s.p k = lastP l s k := by unfold lastP; rw [if_neg (by rw [g]; decide)]
      intro _; refine ⟨o1, ?_⟩
      intro _; refine ⟨t2, ?_⟩
      intro _; refine ⟨i1, ?_⟩
      intro _; refine ⟨i2, ?_⟩
      intro _; refine ⟨o1, ?_⟩
      intro _; refine ⟨t2, ?_⟩
      intro _; refine ⟨by kernel_rfl, ?_⟩
      refine ⟨⟨k + 1, by omega⟩, by simp; omega, th [] 4, rfl, rfl, rfl, rfl, rfl, rfl, ?_, ?_⟩
      · (repeat' first | exact trivial | exact rfl | refine And.intro ?_ ?_)
        exact (wrap_nat k (by omega)).symm
      · (repeat' first | exact trivial | exact rfl | refine And.intro ?_ ?_)
        show tab l.length (fun i => if i < k + 1 then ba l i + lastP l s i else s.p i) = (tab l.length (fun i => if i < k then ba l i + lastP l s i else s.p i)).set k (IntKind.i64.wrap ((tab l.length (fun i => if i < k then ba l i + lastP l s i else s.p i)).getD k 0 + ba l (0 + k)))
        rw [tab_get _ hkn, if_neg (by omega), z, eL, wrapS _ ⟨by omega, by omega⟩]
        exact stepT _ (by omega) _ (fun i hi e => rfl)
  have hkl := of_decide_eq_false (show decide ((k : Int) < (l.length : Int)) = false from g)
  have hkl : k = l.length := by omega
  subst hkl
  intro _
  refine ⟨[(1, some 2)], .tup [.grw 1 (sh l sp gp).1.length, .int .i64 (sh l sp gp).2], ⟨2, 1, [(1, .arr [.int .i64] .own (.ints (sh l sp gp).1))]⟩, rfl, rfl, rfl, rfl, ?_, ?_, ⟨rfl, rfl⟩⟩
  · rw [e1]
    (repeat' first | exact trivial | exact rfl | refine And.intro ?_ ?_)
    show List.length (tab l.length _) = (l.length : Int).toNat
    rw [tab_len]; omega
  · rw [e1]
    (repeat' first | exact trivial | exact rfl | refine And.intro ?_ ?_)
    exact tab_ext (fun i hi => by rw [if_pos hi, hTl i hi])
/-- SameInts -/
theorem same10 (a b : List Int) (ha : a.length ≤ 9223372036854775807) (hb : b.length ≤ 9223372036854775807) : SemF Try.prog 19 [.slc 0 1 0 a.length, .slc 1 1 0 b.length] ⟨2, 2, [(0, .arr [.int .i64] .rd (.ints a)), (1, .arr [.int .i64] .rd (.ints b))]⟩
    (fun v _ => v = .bool (decide (a = b)) ∧ nameless v = true) := by
  refine enter tt_ok Try.func19 (nt := 26) (cd := body Try.f19) rfl rfl rfl rfl ?_
  intro _; refine ⟨fun g => ?_, fun g => ?_⟩
  · intro _
    refine ⟨?_, rfl⟩
    have g : ((a.length : Int) != (b.length : Int)) = true := g
    have : a ≠ b := fun e => by subst e; simp at g
    rw [decide_eq_false this]
  have hab : a.length = b.length := by
    have g : ((a.length : Int) != (b.length : Int)) = false := g
    have g2 := g; simp at g2; omega
  intro _
  refine loop2 tt_ok [5] [] 2 (fun k : { k : Nat // k ≤ a.length ∧ ∀ i, i < k → a.getD i 0 = b.getD i 0 } => [(5, .int .i64 k)]) (fun _ => []) (fun k => a.length - k) ⟨0, by omega, fun i h => by omega⟩ ?_
  intro _
  refine ⟨⟨th [] 2, rfl, rfl, rfl, rfl, rfl, rfl, ?_, ?_⟩, ?_⟩
  · (repeat' first | exact trivial | exact rfl | refine And.intro ?_ ?_)
  · (repeat' first | exact trivial | exact rfl | refine And.intro ?_ ?_)
  · intro ⟨k, hk, hmk⟩
    intro _; refine ⟨fun g => ?_, fun g => ?_⟩
    · have hkl : k < a.length := by simp at g; omega
      have e0 : 0 + ((k : Int)).toNat = k := by omega
      intro _; refine ⟨by simp; omega, ?_⟩
      intro _; refine ⟨by simp [AC.len]; omega, ?_⟩
      intro _; refine ⟨by simp; omega, ?_⟩
      intro _; refine ⟨by simp [AC.len]; omega, ?_⟩
      intro _; refine ⟨by kernel_rfl, ?_⟩
      intro _; refine ⟨fun g2 => ?_, fun g2 => ?_⟩
      · have g2 : (a.getD (0 + ((k : Int)).toNat) 0 != b.getD (0 + ((k : Int)).toNat) 0) = true := g2
        rw [e0] at g2
        intro _
        refine ⟨?_, rfl⟩
        have : a ≠ b := fun e => by subst e; simp at g2
        rw [decide_eq_false this]
      · have g2 : (a.getD (0 + ((k : Int)).toNat) 0 != b.getD (0 + ((k : Int)).toNat) 0) = false := g2
        rw [e0] at g2
        refine ⟨⟨k + 1, by omega, fun i hi => ?_⟩, by simp; omega, th [] 2, rfl, rfl, rfl, rfl, rfl, rfl, ?_, ?_⟩
        · by_cases e : i = k
          · subst e; simpa using g2
          · exact hmk i (by omega)
        · (repeat' first | exact trivial | exact rfl | refine And.intro ?_ ?_)
          exact (wrap_nat k (by omega)).symm
        · (repeat' first | exact trivial | exact rfl | refine And.intro ?_ ?_)
    · have hkl : k = a.length := by simp at g; omega
      subst hkl
      intro _
      refine ⟨?_, rfl⟩
      have : a = b := by
        refine List.ext_getElem hab (fun i h1 h2 => ?_)
        have := hmk i h1
        rw [List.getD_eq_getElem?_getD, List.getD_eq_getElem?_getD, List.getElem?_eq_getElem h1, List.getElem?_eq_getElem h2] at this
        exact this
      rw [decide_eq_true this]

theorem few2 (a b : Nat) : SemF Try.prog 16 [.slc 0 1 0 2] ⟨3, 3, [(0, .cells [.slc 1 1 0 a, .slc 2 1 0 b])]⟩ (fun v _ => v = .test (decide (a ≤ 70 ∧ b ≤ 70)) ∧ nameless v = true) := by
  refine SemF.test ?_
  refine enter tt_ok Try.func16 (nt := 15) (cd := body Try.f16) rfl rfl rfl rfl ?_
  intro _
  refine loop2 tt_ok [7] [] 3 (fun k : { k : Nat // k ≤ 2 ∧ (1 ≤ k → a ≤ 70) ∧ (2 ≤ k → b ≤ 70) } => [(7, .int .i64 (k : Nat))]) (fun _ => []) (fun k => 2 - k) ⟨0, by omega, by omega, by omega⟩ ?_
  intro _
  refine ⟨⟨th [] 3, rfl, rfl, rfl, rfl, rfl, rfl, ?_, ?_⟩, ?_⟩
  · (repeat' first | exact trivial | exact rfl | refine And.intro ?_ ?_)
  · (repeat' first | exact trivial | exact rfl | refine And.intro ?_ ?_)
  intro ⟨k, hk, h1, h2⟩
  rcases (show k = 0 ∨ k = 1 ∨ k = 2 by omega) with rfl | rfl | rfl
  · intro _; refine ⟨fun _ => ?_, fun g => by simp at g⟩
    intro _; refine ⟨by simp, ?_⟩
    intro _; refine ⟨fun g => ?_, fun g => ?_⟩
    · have g := of_decide_eq_true (show decide ((a : Int) > 70) = true from g)
      intro _
      exact ⟨false, .inl rfl, by rw [decide_eq_false (by omega)], rfl⟩
    · have g := of_decide_eq_false (show decide ((a : Int) > 70) = false from g)
      refine ⟨⟨1, by omega, by omega, by omega⟩, by simp, th [] 3, rfl, rfl, rfl, rfl, rfl, rfl, ?_, ?_⟩
      · (repeat' first | exact trivial | exact rfl | refine And.intro ?_ ?_)
      · (repeat' first | exact trivial | exact rfl | refine And.intro ?_ ?_)
  · intro _; refine ⟨fun _ => ?_, fun g => by simp at g⟩
    intro _; refine ⟨by simp, ?_⟩
    intro _; refine ⟨fun g => ?_, fun g => ?_⟩
    · have g := of_decide_eq_true (show decide ((b : Int) > 70) = true from g)
      intro _
      exact ⟨false, .inl rfl, by rw [decide_eq_false (by omega)], rfl⟩
    · have g := of_decide_eq_false (show decide ((b : Int) > 70) = false from g)
      refine ⟨⟨2, by omega, by omega, by omega⟩, by simp, th [] 3, rfl, rfl, rfl, rfl, rfl, rfl, ?_, ?_⟩
      · (repeat' first | exact trivial | exact rfl | refine And.intro ?_ ?_)
      · (repeat' first | exact trivial | exact rfl | refine And.intro ?_ ?_)
  · intro _; refine ⟨fun g => by simp at g, fun _ => ?_⟩
    intro _
    exact ⟨true, .inl rfl, by rw [decide_eq_true (show a ≤ 70 ∧ b ≤ 70 from ⟨h1 (by omega), h2 (by omega)⟩)], rfl⟩
theorem few1 (a : Nat) : SemF Try.prog 16 [.slc 0 1 0 1] ⟨2, 2, [(0, .cells [.slc 1 1 0 a])]⟩ (fun v _ => v = .test (decide (a ≤ 70)) ∧ nameless v = true) := by
  refine SemF.test ?_
  refine enter tt_ok Try.func16 (nt := 15) (cd := body Try.f16) rfl rfl rfl rfl ?_
  intro _
  refine loop2 tt_ok [7] [] 2 (fun k : { k : Nat // k ≤ 1 ∧ (1 ≤ k → a ≤ 70) } => [(7, .int .i64 (k : Nat))]) (fun _ => []) (fun k => 1 - k) ⟨0, by omega, by omega⟩ ?_
  intro _
  refine ⟨⟨th [] 2, rfl, rfl, rfl, rfl, rfl, rfl, ?_, ?_⟩, ?_⟩
  · (repeat' first | exact trivial | exact rfl | refine And.intro ?_ ?_)
  · (repeat' first | exact trivial | exact rfl | refine And.intro ?_ ?_)
  intro ⟨k, hk, h1⟩
  rcases (show k = 0 ∨ k = 1 by omega) with rfl | rfl
  · intro _; refine ⟨fun _ => ?_, fun g => by simp at g⟩
    intro _; refine ⟨by simp, ?_⟩
    intro _; refine ⟨fun g => ?_, fun g => ?_⟩
    · have g := of_decide_eq_true (show decide ((a : Int) > 70) = true from g)
      intro _
      exact ⟨false, .inl rfl, by rw [decide_eq_false (by omega)], rfl⟩
    · have g := of_decide_eq_false (show decide ((a : Int) > 70) = false from g)
      refine ⟨⟨1, by omega, by omega⟩, by simp, th [] 2, rfl, rfl, rfl, rfl, rfl, rfl, ?_, ?_⟩
      · (repeat' first | exact trivial | exact rfl | refine And.intro ?_ ?_)
      · (repeat' first | exact trivial | exact rfl | refine And.intro ?_ ?_)
  · intro _; refine ⟨fun g => by simp at g, fun _ => ?_⟩
    intro _
    exact ⟨true, .inl rfl, by rw [decide_eq_true (show a ≤ 70 from h1 (by omega))], rfl⟩
def at' (L : List Int) (i : Nat) : Int := L.getD i 0
theorem total_ok (L : List Int) (hl : L.length ≤ 100) (hb : ∀ i, i < L.length → 0 ≤ at' L i ∧ at' L i ≤ 2000000) : SemF Try.prog 23 [.slc 0 1 0 L.length] ⟨1, 1, [(0, .arr [.int .i64] .rd (.ints L))]⟩ (fun v _ => v = .int .i64 (sm (at' L) L.length) ∧ nameless v = true) := by
  refine enter tt_ok Try.func23 (nt := 17) (cd := body Try.f23) rfl rfl rfl rfl ?_
  have hs : ∀ k, k ≤ L.length → 0 ≤ sm (at' L) k ∧ sm (at' L) k ≤ k * 2000000 := fun k hk => by
    induction k with
    | zero => simp [sm]
    | succ k ih =>
      have := ih (by omega)
      have := hb k (by omega)
      simp only [sm]; omega
  intro _
  refine loop2 tt_ok [8, 3] [] 1 (fun k : Fin (L.length + 1) => [(8, .int .i64 (k : Nat)), (3, .int .i64 (sm (at' L) k))]) (fun _ => []) (fun k => L.length - k) ⟨0, by omega⟩ ?_
  intro _
  refine ⟨⟨th [] 1, rfl, rfl, rfl, rfl, rfl, rfl, ?_, ?_⟩, ?_⟩
  · (repeat' first | exact trivial | exact rfl | refine And.intro ?_ ?_)
  · (repeat' first | exact trivial | exact rfl | refine And.intro ?_ ?_)
  intro ⟨k, hk⟩
  have z : 0 + k = k := Nat.zero_add k
  intro _; refine ⟨fun g => ?_, fun g => ?_⟩
  · have hkl := of_decide_eq_true (show decide ((k : Int) < (L.length : Int)) = true from g)
    have b1 := hs k (by omega)
    have b2 := hb k (by omega)
    intro _; refine ⟨show 0 ≤ (k : Int) ∧ (k : Int) < (L.length : Int) by omega, ?_⟩
    intro _; refine ⟨show 0 + (k : Int).toNat < L.length by omega, ?_⟩
    refine ⟨⟨k + 1, by omega⟩, by simp; omega, th [] 1, rfl, rfl, rfl, rfl, rfl, rfl, ?_, ?_⟩
    · (repeat' first | exact trivial | exact rfl | refine And.intro ?_ ?_)
      · exact (wrap_nat k (by omega)).symm
      · show sm (at' L) (k + 1) = IntKind.i64.wrap (sm (at' L) k + at' L (0 + k))
        rw [z, wrapS _ ⟨by omega, by omega⟩]; rfl
    · (repeat' first | exact trivial | exact rfl | refine And.intro ?_ ?_)
  · have hkl := of_decide_eq_false (show decide ((k : Int) < (L.length : Int)) = false from g)
    have hkl : k = L.length := by omega
    subst hkl
    intro _
    exact ⟨rfl, rfl⟩
def tk (B G : List Int) (i : Nat) : List D := [D.n (at' B i), D.n (at' G i), D.n 0]
def trk (B G : List Int) : Rows := rtab B.length (tk B G)
theorem rtab_set {n : Nat} (f : Nat → List D) (k : Nat) (v : List D) : (rtab n f).set k v = rtab n (fun i => if i = k then v else f i) := by
  unfold rtab
  refine List.ext_getElem (by simp) (fun i h1 h2 => ?_)
  rw [List.getElem_set]
  simp only [List.getElem_map, List.getElem_range]
  by_cases e : k = i
  · rw [if_pos e, if_pos e.symm]
  · rw [if_neg e, if_neg (fun h => e h.symm)]
theorem rtab_rep (n : Nat) (d : List D) : List.replicate n d = rtab n (fun _ => d) := by
  unfold rtab
  refine List.ext_getElem (by simp) (fun i h1 h2 => ?_)
  simp
theorem rtab_ext {n : Nat} {f g : Nat → List D} (h : ∀ i, i < n → f i = g i) : rtab n f = rtab n g := by
  unfold rtab; exact List.map_congr_left (fun i hi => h i (List.mem_range.1 hi))
def wr (B G : List Int) (s gp : Int) : List Int × Int := if B.length = G.length then sh (trk B G) s gp else ([], 1)
def WQ (B G : List Int) (s gp : Int) : V → H → Prop := fun v h' => v = .tup [.grw 2 (wr B G s gp).1.length, .int .i64 (wr B G s gp).2] ∧ h' = ⟨3, 2, [(2, .arr [.int .i64] .own (.ints (wr B G s gp).1))]⟩
theorem widths_ok (B G : List Int) (s gp : Int) (hB : B.length ≤ 70) (hG : G.length ≤ 70) : SemF Try.prog 17 [.slc 0 1 0 B.length, .slc 1 1 0 G.length, .int .i64 s, .int .i64 gp] ⟨2, 2, [(0, .arr [.int .i64] .rd (.ints B)), (1, .arr [.int .i64] .rd (.ints G))]⟩ (WQ B G s gp) := by
  refine SemF.ret ?_
  refine enter tt_ok Try.func17 (nt := 44) (cd := body Try.f17) rfl rfl rfl rfl ?_
  intro _; refine ⟨fun g => ?_, fun g => ?_⟩
  · have g : ((B.length : Int) != (G.length : Int)) = true := g
    have hne : B.length ≠ G.length := fun e => by rw [e] at g; simp at g
    have e1 : wr B G s gp = ([], 1) := by unfold wr; rw [if_neg hne]
    intro _
    refine ⟨[(2, none)], .tup [.grw 2 0, .int .i64 1], ⟨3, 2, [(2, .arr [.int .i64] .own (.ints []))]⟩, rfl, rfl, rfl, rfl, ?_, ?_, ?_, ?_⟩
    · (repeat' first | exact trivial | exact rfl | refine And.intro ?_ ?_)
    · (repeat' first | exact trivial | exact rfl | refine And.intro ?_ ?_)
    · rw [e1]; rfl
    · rw [e1]
  have g : ((B.length : Int) != (G.length : Int)) = false := g
  have hBG : B.length = G.length := by
    have g2 : (B.length : Int) = (G.length : Int) := by simpa using g
    omega
  have e1 : wr B G s gp = sh (trk B G) s gp := by unfold wr; rw [if_pos hBG]
  intro _; refine ⟨⟨by omega, by omega, by omega⟩, ?_⟩
  intro _
  refine loop2 tt_ok [23] [2] 3 (fun k : Fin (B.length + 1) => [(23, .int .i64 (k : Nat))]) (fun k => [(2, .arr [.int .i64, .int .i64, .int .i64] .own (.recs (rtab B.length (fun i => if i < (k : Nat) then tk B G i else [D.n 0, D.n 0, D.n 0]))))]) (fun k => B.length - k) ⟨0, by omega⟩ ?_
  intro _
  refine ⟨⟨th [] 3, rfl, rfl, rfl, rfl, rfl, rfl, ?_, ?_⟩, ?_⟩
  · (repeat' first | exact trivial | exact rfl | refine And.intro ?_ ?_)
  · (repeat' first | exact trivial | exact rfl | refine And.intro ?_ ?_)
    have : (B.length : Int).toNat = B.length := by omega
    show rtab B.length _ = List.replicate (B.length : Int).toNat [D.n 0, D.n 0, D.n 0]
    rw [this, rtab_rep]
    exact rtab_ext (fun i _ => if_neg (by simp))
  intro ⟨k, hk⟩
  have z : 0 + k = k := Nat.zero_add k
  intro _; refine ⟨fun g => ?_, fun g => ?_⟩
  · have hkl := of_decide_eq_true (show decide ((k : Int) < (B.length : Int)) = true from g)
    intro _; refine ⟨show 0 ≤ (k : Int) ∧ (k : Int) < (B.length : Int) by omega, ?_⟩
    intro _; refine ⟨show 0 + (k : Int).toNat < B.length by omega, ?_⟩
    intro _; refine ⟨show 0 ≤ (k : Int) ∧ (k : Int) < (G.length : Int) by omega, ?_⟩
    intro _; refine ⟨show 0 + (k : Int).toNat < G.length by omega, ?_⟩
    intro _; refine ⟨show 0 ≤ (k : Int) ∧ (k : Int) < ((B.length : Int).toNat : Int) by omega, ?_⟩
    intro _; refine ⟨show (k : Int).toNat < List.length (rtab B.length _) by rw [rtab_len]; omega, ?_⟩
    refine ⟨⟨k + 1, by omega⟩, by simp; omega, th [] 3, rfl, rfl, rfl, rfl, rfl, rfl, ?_, ?_⟩
    · (repeat' first | exact trivial | exact rfl | refine And.intro ?_ ?_)
      exact (wrap_nat k (by omega)).symm
    · (repeat' first | exact trivial | exact rfl | refine And.intro ?_ ?_)
      show rtab B.length (fun i => if i < k + 1 then tk B G i else [D.n 0, D.n 0, D.n 0]) = (rtab B.length (fun i => if i < k then tk B G i else [D.n 0, D.n 0, D.n 0])).set k (tk B G (0 + k))
      rw [z, rtab_set]
      refine rtab_ext (fun i _ => ?_)
      by_cases e : i = k
      · subst e; rw [if_pos (by omega), if_pos rfl]
      · rw [if_neg e]
        by_cases e2 : i < k
        · rw [if_pos e2, if_pos (by omega)]
        · rw [if_neg e2, if_neg (by omega)]
  have hkl := of_decide_eq_false (show decide ((k : Int) < (B.length : Int)) = false from g)
  have hkl : k = B.length := by omega
  subst hkl
  have eT : rtab B.length (fun i => if i < B.length then tk B G i else [D.n 0, D.n 0, D.n 0]) = trk B G := rtab_ext (fun i hi => if_pos hi)
  intro _
  refine call_new [(0, some 2)] (share_ok (trk B G) s gp (by unfold trk; rw [rtab_len]; omega)) rfl rfl rfl rfl ?_ ?_ ?_
  · (repeat' first | exact trivial | exact rfl | refine And.intro ?_ ?_)
    exact eT.symm
  · (repeat' first | exact trivial | exact rfl | refine And.intro ?_ ?_)
    show List.length (rtab B.length _) = (B.length : Int).toNat
    rw [rtab_len]; omega
  intro v h' hv
  obtain ⟨rfl, rfl⟩ := hv
  refine ⟨[(3, some 1)], 4, [(3, .arr [.int .i64] .own (.ints (sh (trk B G) s gp).1))], .tup [.grw 3 (sh (trk B G) s gp).1.length, .int .i64 (sh (trk B G) s gp).2], rfl, rfl, rfl, rfl, rfl, ?_, ?_, ?_⟩
  · (repeat' first | exact trivial | exact rfl | refine And.intro ?_ ?_)
  · (repeat' first | exact trivial | exact rfl | refine And.intro ?_ ?_)
  intro _
  refine ⟨[(2, some 3)], .tup [.grw 2 (wr B G s gp).1.length, .int .i64 (wr B G s gp).2], ⟨3, 2, [(2, .arr [.int .i64] .own (.ints (wr B G s gp).1))]⟩, rfl, rfl, rfl, rfl, ?_, ?_, ⟨rfl, rfl⟩⟩
  · rw [e1]
    (repeat' first | exact trivial | exact rfl | refine And.intro ?_ ?_)
  · rw [e1]
    (repeat' first | exact trivial | exact rfl | refine And.intro ?_ ?_)
theorem rwidths_ok (B G : List Int) (s gp : Int) (hB : B.length ≤ 70) (hG : G.length ≤ 70) : SemF Try.prog 18 [.slc 0 1 0 B.length, .slc 1 1 0 G.length, .int .i64 s, .int .i64 gp] ⟨2, 2, [(0, .arr [.int .i64] .rd (.ints B)), (1, .arr [.int .i64] .rd (.ints G))]⟩ (WQ B G s gp) := by
  refine SemF.ret ?_
  refine enter tt_ok Try.func18 (nt := 46) (cd := body Try.f18) rfl rfl rfl rfl ?_
  intro _; refine ⟨fun g => ?_, fun g => ?_⟩
  · have g : ((B.length : Int) != (G.length : Int)) = true := g
    have hne : B.length ≠ G.length := fun e => by rw [e] at g; simp at g
    have e1 : wr B G s gp = ([], 1) := by unfold wr; rw [if_neg hne]
    intro _
    refine ⟨[(2, none)], .tup [.grw 2 0, .int .i64 1], ⟨3, 2, [(2, .arr [.int .i64] .own (.ints []))]⟩, rfl, rfl, rfl, rfl, ?_, ?_, ?_, ?_⟩
    · (repeat' first | exact trivial | exact rfl | refine And.intro ?_ ?_)
    · (repeat' first | exact trivial | exact rfl | refine And.intro ?_ ?_)
    · rw [e1]; rfl
    · rw [e1]
  have g : ((B.length : Int) != (G.length : Int)) = false := g
  have hBG : B.length = G.length := by
    have g2 : (B.length : Int) = (G.length : Int) := by simpa using g
    omega
  have e1 : wr B G s gp = sh (trk B G) s gp := by unfold wr; rw [if_pos hBG]
  intro _
  refine loop2 tt_ok [11, 10] [2] 3 (fun k : Fin (B.length + 1) => [(11, .int .i64 (k : Nat)), (10, .grw 2 (k : Nat))]) (fun k => [(2, .arr [.int .i64, .int .i64, .int .i64] .grow (.recs (rtab (k : Nat) (tk B G))))]) (fun k => B.length - k) ⟨0, by omega⟩ ?_
  intro _
  refine ⟨⟨th [(2, none)] 3, rfl, rfl, rfl, rfl, rfl, rfl, ?_, ?_⟩, ?_⟩
  · (repeat' first | exact trivial | exact rfl | refine And.intro ?_ ?_)
  · (repeat' first | exact trivial | exact rfl | refine And.intro ?_ ?_)
  intro ⟨k, hk⟩
  have z : 0 + k = k := Nat.zero_add k
  intro _; refine ⟨fun g => ?_, fun g => ?_⟩
  · have hkl := of_decide_eq_true (show decide ((k : Int) < (B.length : Int)) = true from g)
    intro _; refine ⟨show 0 ≤ (k : Int) ∧ (k : Int) < (B.length : Int) by omega, ?_⟩
    intro _; refine ⟨show 0 + (k : Int).toNat < B.length by omega, ?_⟩
    intro _; refine ⟨show 0 ≤ (k : Int) ∧ (k : Int) < (G.length : Int) by omega, ?_⟩
    intro _; refine ⟨show 0 + (k : Int).toNat < G.length by omega, ?_⟩
    intro _
    refine Or.inr ?_
    intro _; refine ⟨rfl, ?_⟩
    intro _; refine ⟨fun g3 => by simp at g3, fun _ => ?_⟩
    refine ⟨⟨(rtab_len k _).symm, show k + 1 ≤ 4611686018427387904 by omega, show (k + 1) * 24 ≤ 70368744177664 by omega⟩, ?_⟩
    intro _; refine ⟨by kernel_rfl, ?_⟩
    refine ⟨⟨k + 1, by omega⟩, by simp; omega, th [(2, some 4)] 3, rfl, rfl, rfl, rfl, rfl, rfl, ?_, ?_⟩
    · (repeat' first | exact trivial | exact rfl | refine And.intro ?_ ?_)
      exact (wrap_nat k (by omega)).symm
    · (repeat' first | exact trivial | exact rfl | refine And.intro ?_ ?_)
      show rtab (k + 1) (tk B G) = rtab k (tk B G) ++ [tk B G (0 + k)]
      rw [rtab_app, z]
  have hkl := of_decide_eq_false (show decide ((k : Int) < (B.length : Int)) = false from g)
  have hkl : k = B.length := by omega
  subst hkl
  intro _
  refine call_new [(0, some 2)] (rshare_ok (trk B G) s gp (by unfold trk; rw [rtab_len]; omega)) rfl rfl rfl rfl ?_ ?_ ?_
  · (repeat' first | exact trivial | exact rfl | refine And.intro ?_ ?_)
  · (repeat' first | exact trivial | exact rfl | refine And.intro ?_ ?_)
    exact rtab_len _ _
  intro v h' hv
  obtain ⟨rfl, rfl⟩ := hv
  refine ⟨[(3, some 1)], 4, [(3, .arr [.int .i64] .own (.ints (sh (trk B G) s gp).1))], .tup [.grw 3 (sh (trk B G) s gp).1.length, .int .i64 (sh (trk B G) s gp).2], rfl, rfl, rfl, rfl, rfl, ?_, ?_, ?_⟩
  · (repeat' first | exact trivial | exact rfl | refine And.intro ?_ ?_)
  · (repeat' first | exact trivial | exact rfl | refine And.intro ?_ ?_)
  intro _
  refine ⟨[(2, some 3)], .tup [.grw 2 (wr B G s gp).1.length, .int .i64 (wr B G s gp).2], ⟨3, 2, [(2, .arr [.int .i64] .own (.ints (wr B G s gp).1))]⟩, rfl, rfl, rfl, rfl, ?_, ?_, ⟨rfl, rfl⟩⟩
  · rw [e1]
    (repeat' first | exact trivial | exact rfl | refine And.intro ?_ ?_)
  · rw [e1]
    (repeat' first | exact trivial | exact rfl | refine And.intro ?_ ?_)
theorem trk_len (B G : List Int) : List.length (trk B G) = B.length := rtab_len _ _
theorem trk_ba {B G : List Int} {i : Nat} (h : i < B.length) : ba (trk B G) i = at' B i := by unfold ba trk; rw [rtab_get _ h]; rfl
theorem trk_gr {B G : List Int} {i : Nat} (h : i < B.length) : gr (trk B G) i = at' G i := by unfold gr trk; rw [rtab_get _ h]; rfl
theorem trk_mx {B G : List Int} {i : Nat} (h : i < B.length) : mx (trk B G) i = 0 := by unfold mx trk; rw [rtab_get _ h]; rfl
theorem pre_sm {l : Rows} (hv : Vd l) (F : Int) : ∀ k, k ≤ l.length → pre l (s0 l F).o k = sm (gr l) k
  | 0, _ => rfl
  | k + 1, h => by
    simp only [pre, sm]
    rw [pre_sm hv F k (by omega)]
    have e : (s0 l F).o k = decide (0 < gr l k) := rfl
    rw [e]
    have := (hv.2 k (by omega)).2.1
    by_cases g : 0 < gr l k
    · rw [if_pos (decide_eq_true g)]
    · rw [if_neg (by rw [decide_eq_false g]; decide)]; omega
theorem bs_sm (l : Rows) : ∀ k, bs l k = sm (ba l) k
  | 0 => rfl
  | k + 1 => by simp only [bs, sm]; rw [bs_sm l k]
/-- parts without any Max -/
theorem T_nomax {l : Rows} {s gp : Int} (h : ShOk l s gp) (hm : ∀ i, i < l.length → mx l i = 0) : (sm (gr l) l.length = 0 ∧ ∀ k, k ≤ l.length → sm (TT l (F0 l s gp)) k = 0) ∨ (0 < sm (gr l) l.length ∧ ∀ k, k ≤ l.length → sm (TT l (F0 l s gp)) k = (F0 l s gp * sm (gr l) k).tdiv (sm (gr l) l.length)) := by
  have hF := F0_bd h
  have ea : al l (s0 l (F0 l s gp)).o = sm (gr l) l.length := pre_sm h.1 _ _ (Nat.le_refl _)
  rcases T_free (F := F0 l s gp) h.1 hF.1 hF.2.1 hm with ⟨a, b⟩ | ⟨a, b⟩
  · left; rw [ea] at a; exact ⟨a, b⟩
  · right
    rw [ea] at a b
    refine ⟨a, fun k hk => ?_⟩
    rw [b k hk, pre_sm h.1 _ k hk]
theorem T_each {l : Rows} {F : Int} {v : Int} (h : ∀ k, k ≤ l.length → sm (TT l F) k = 0) {i : Nat} (hi : i < l.length) : TT l F i = 0 := by
  have a := h i (by omega)
  have b := h (i + 1) (by omega)
  have : sm (TT l F) (i + 1) = sm (TT l F) i + TT l F i := rfl
  omega
abbrev K7 : List CK := [.int .i64, .int .i64, .int .i64, .int .i64, .int .i64, .bool, .nils]
theorem space_test (n : Int) (h : H) (K : V → H → Prop) (hK : K (.test (decide (0 ≤ n ∧ n ≤ 1000000))) h) : SemF Try.prog 34 [.int .i64 n] h K := by
  refine SemF.test ?_
  refine enter tt_ok Try.func34 (nt := 9) (cd := body Try.f34) rfl rfl rfl rfl ?_
  intro _; refine ⟨fun g => ?_, fun g => ?_⟩
  · have g := of_decide_eq_true (show decide (n ≥ 0) = true from g)
    intro _
    refine ⟨_, .inr rfl, ?_⟩
    have : decide (0 ≤ n ∧ n ≤ 1000000) = decide (n ≤ 1000000) := by
      by_cases e : n ≤ 1000000
      · rw [decide_eq_true e, decide_eq_true (show 0 ≤ n ∧ n ≤ 1000000 from ⟨by omega, e⟩)]
      · rw [decide_eq_false e, decide_eq_false (fun m => e m.2)]
    rw [← this]; exact hK
  · have g := of_decide_eq_false (show decide (n ≥ 0) = false from g)
    intro _
    refine ⟨false, .inl rfl, ?_⟩
    have : decide (0 ≤ n ∧ n ≤ 1000000) = false := decide_eq_false (fun m => by have := m.1; omega)
    rw [← this]; exact hK
/-! heights, and what is over -/
def Sz (L : List Int) (most : Int) : Prop := (1 ≤ L.length ∧ L.length ≤ 64) ∧ ∀ i, i < L.length → 0 ≤ at' L i ∧ at' L i ≤ most
instance decSz (L : List Int) (most : Int) : Decidable (Sz L most) := inferInstanceAs (Decidable (_ ∧ _))
def hm (H : List Int) : Nat → Int
  | 0 => 0
  | k + 1 => max (hm H k) (at' H k)
def ov (W : List Int) (gp s : Int) : Int := max 0 (s - gp * ((W.length : Int) - 1) - sm (at' W) W.length)
def frm (W : List Int) (gp al s : Int) : Int := (ov W gp s * al).tdiv 2
def POk (W H : List Int) (gp al s : Int) : Prop := SOk W gp ∧ H.length = W.length ∧ (0 ≤ al ∧ al ≤ 2) ∧ (0 ≤ s ∧ s ≤ 1000000) ∧ ∀ i, i < H.length → 0 ≤ at' H i ∧ at' H i ≤ 1000000000
instance decPOk (W H : List Int) (gp al s : Int) : Decidable (POk W H gp al s) := inferInstanceAs (Decidable (_ ∧ _))
def bx (W H : List Int) (gp fr : Int) (i : Nat) : List D := [D.n 0, D.n (sp W gp i + fr), D.n 0, D.n (at' W i), D.n (at' H i), D.b false, D.n 0]
def pl (W H : List Int) (gp al s : Int) : Rows × Int × Int := if POk W H gp al s then (rtab W.length (bx W H gp (frm W gp al s)), hm H H.length, 0) else ([], 0, 1)
def PlQ (W H : List Int) (gp al s : Int) : V → Go.Vm2.H → Prop := fun v h' => v = .tup [.grw 2 (pl W H gp al s).1.length, .int .i64 (pl W H gp al s).2.1, .int .i64 (pl W H gp al s).2.2] ∧ h' = ⟨3, 2, [(2, .arr [.int .i64, .int .i64, .int .i64, .int .i64, .int .i64, .bool, .nils] .grow (.recs (pl W H gp al s).1))]⟩
theorem sp_sum (W : List Int) (gp : Int) : ∀ k : Nat, sp W gp k = sm (at' W) k + gp * k
  | 0 => by simp [sp, sm]
  | k + 1 => by
    simp only [sp, sm]
    rw [sp_sum W gp k, show ((k + 1 : Nat) : Int) = k + 1 from rfl, Int.mul_add]
    have : W.getD k 0 = at' W k := rfl
    omega
theorem ov_bd {W : List Int} {gp s : Int} (h : SOk W gp) (hs : 0 ≤ s ∧ s ≤ 1000000) : 0 ≤ ov W gp s ∧ ov W gp s ≤ 1000000 ∧ 0 ≤ gp * ((W.length : Int) - 1) ∧ gp * ((W.length : Int) - 1) ≤ 6300000 ∧ 0 ≤ sm (at' W) W.length := by
  have h64 := h.1
  have hg := h.2.1
  have hgn : 0 ≤ gp * ((W.length : Int) - 1) ∧ gp * ((W.length : Int) - 1) ≤ 6300000 := by
    refine ⟨Int.mul_nonneg hg.1 (by omega), ?_⟩
    have h1 : gp * ((W.length : Int) - 1) ≤ 100000 * ((W.length : Int) - 1) := Int.mul_le_mul_of_nonneg_right hg.2 (by omega)
    omega
  have : ∀ k, k ≤ W.length → 0 ≤ sm (at' W) k := fun k hk => by
    induction k with
    | zero => exact Int.le_refl _
    | succ k ih =>
      have h1 := ih (by omega)
      have h2 : 0 ≤ at' W k := (h.2.2 k (by omega)).1
      simp only [sm]; omega
  have := this W.length (Nat.le_refl _)
  unfold ov; omega
theorem frm_bd {W : List Int} {gp al s : Int} (h : SOk W gp) (hs : 0 ≤ s ∧ s ≤ 1000000) (ha : 0 ≤ al ∧ al ≤ 2) : 0 ≤ frm W gp al s ∧ frm W gp al s ≤ 1000000 ∧ (al = 0 → frm W gp al s = 0) ∧ (al = 1 → frm W gp al s = (ov W gp s).tdiv 2) ∧ (al = 2 → frm W gp al s = ov W gp s) := by
  have ho := ov_bd h hs
  unfold frm
  rcases (show al = 0 ∨ al = 1 ∨ al = 2 by omega) with rfl | rfl | rfl
  · simp
  · rw [Int.mul_one]
    rw [Int.tdiv_eq_ediv_of_nonneg ho.1]
    refine ⟨by omega, by omega, fun h => by omega, fun _ => rfl, fun h => by omega⟩
  · have : (ov W gp s * 2).tdiv 2 = ov W gp s := by
      rw [Int.tdiv_eq_ediv_of_nonneg (by omega)]; omega
    rw [this]
    exact ⟨ho.1, ho.2.1, fun h => by omega, fun h => by omega, fun _ => rfl⟩
theorem hm_bd {H : List Int} (h : ∀ i, i < H.length → 0 ≤ at' H i ∧ at' H i ≤ 1000000000) : ∀ k, k ≤ H.length → 0 ≤ hm H k ∧ hm H k ≤ 1000000000
  | 0, _ => by simp [hm]
  | k + 1, hk => by
    have := hm_bd h k (by omega)
    have := h k (by omega)
    simp only [hm]; omega
set_option maxHeartbeats 4000000 in
theorem place_ok (W H : List Int) (gp al s : Int) (hW : W.length ≤ 70) (hH : H.length ≤ 70) : SemF Try.prog 20 [.slc 0 1 0 W.length, .slc 1 1 0 H.length, .int .i64 gp, .int .i64 al, .int .i64 s] ⟨2, 2, [(0, .arr [.int .i64] .rd (.ints W)), (1, .arr [.int .i64] .rd (.ints H))]⟩ (PlQ W H gp al s) := by
  refine SemF.ret ?_
  refine enter tt_ok Try.func20 (nt := 104) (cd := body Try.f20) rfl rfl rfl rfl ?_
  have bad : ¬ POk W H gp al s → ∀ nx hx, Nat.ble 2 nx = true → Ret 2 (PlQ W H gp al s) (.tup [.nils, .int .i64 0, .int .i64 1]) ⟨nx, 2, hx⟩ := fun he nx hx hn => by
    have e1 : pl W H gp al s = ([], 0, 1) := by unfold pl; rw [if_neg he]
    refine ⟨[(2, none)], .tup [.grw 2 0, .int .i64 0, .int .i64 1], ⟨3, 2, [(2, .arr [.int .i64, .int .i64, .int .i64, .int .i64, .int .i64, .bool, .nils] .grow (.recs []))]⟩, rfl, rfl, rfl, rfl, ?_, ?_, ?_, ?_⟩
    · (repeat' first | exact trivial | exact rfl | refine And.intro ?_ ?_)
    · (repeat' first | exact trivial | exact rfl | refine And.intro ?_ ?_)
    · rw [e1]; rfl
    · rw [e1]
  intro _
  refine call_new [(0, some 0)] (starts_ok W gp (by omega)) rfl rfl rfl rfl ?_ ?_ ?_
  · (repeat' first | exact trivial | exact rfl | refine And.intro ?_ ?_)
  · (repeat' first | exact trivial | exact rfl | refine And.intro ?_ ?_)
  intro v h' hv
  obtain ⟨rfl, rfl⟩ := hv
  refine ⟨[(2, some 1)], 3, [(2, .arr [.int .i64] .own (.ints (sr W gp).1))], .tup [.grw 2 (sr W gp).1.length, .int .i64 (sr W gp).2], rfl, rfl, rfl, rfl, rfl, ?_, ?_, ?_⟩
  · (repeat' first | exact trivial | exact rfl | refine And.intro ?_ ?_)
  · (repeat' first | exact trivial | exact rfl | refine And.intro ?_ ?_)
  by_cases hS : SOk W gp
  rotate_left
  · have e1 : sr W gp = ([], 1) := by unfold sr; rw [if_neg hS]
    intro _; refine ⟨fun _ => ?_, fun g => ?_⟩
    · intro _
      exact bad (fun h => hS h.1) _ _ rfl
    · exfalso
      have g : ((sr W gp).2 != 0) = false := g
      rw [e1] at g; simp at g
  have e1 : sr W gp = (tab W.length (sp W gp), 0) := by unfold sr; rw [if_pos hS]
  have eL : List.length (sr W gp).1 = W.length := by rw [e1]; exact tab_len _ _
  have h64 := hS.1
  intro _; refine ⟨fun g => ?_, fun _ => ?_⟩
  · exfalso
    have g : ((sr W gp).2 != 0) = true := g
    rw [e1] at g; simp at g
  intro _; refine ⟨fun g => ?_, fun g => ?_⟩
  · have g : ((H.length : Int) != (W.length : Int)) = true := g
    intro _
    exact bad (fun h => by rw [h.2.1] at g; simp at g) _ _ rfl
  have g : ((H.length : Int) != (W.length : Int)) = false := g
  have hHW : H.length = W.length := by
    have g2 : (H.length : Int) = (W.length : Int) := by simpa using g
    omega
  intro _; refine ⟨fun g => ?_, fun g => ?_⟩
  · have g := of_decide_eq_true (show decide (al < 0) = true from g)
    intro _
    exact bad (fun h => by have := h.2.2.1; omega) _ _ rfl
  have a1 := of_decide_eq_false (show decide (al < 0) = false from g)
  intro _; refine ⟨fun g => ?_, fun g => ?_⟩
  · have g := of_decide_eq_true (show decide (al > 2) = true from g)
    intro _
    exact bad (fun h => by have := h.2.2.1; omega) _ _ rfl
  have a2 := of_decide_eq_false (show decide (al > 2) = false from g)
  intro _
  refine space_test _ _ _ ?_
  intro _; refine ⟨fun g => ?_, fun g => ?_⟩
  · have g : (!decide (0 ≤ s ∧ s ≤ 1000000)) = true := g
    rw [Bool.not_eq_true'] at g
    have g := of_decide_eq_false g
    intro _
    exact bad (fun h => g h.2.2.2.1) _ _ rfl
  have g : (!decide (0 ≤ s ∧ s ≤ 1000000)) = false := g
  rw [Bool.not_eq_false'] at g
  have hs := of_decide_eq_true g
  intro _
  refine loop2 tt_ok [53] [] 3 (fun k : { k : Nat // k ≤ H.length ∧ ∀ i, i < k → 0 ≤ at' H i ∧ at' H i ≤ 1000000000 } => [(53, .int .i64 (k : Nat))]) (fun _ => []) (fun k => H.length - k) ⟨0, by omega, fun i h => by omega⟩ ?_
  intro _
  refine ⟨⟨th [] 3, rfl, rfl, rfl, rfl, rfl, rfl, ?_, ?_⟩, ?_⟩
  · (repeat' first | exact trivial | exact rfl | refine And.intro ?_ ?_)
  · (repeat' first | exact trivial | exact rfl | refine And.intro ?_ ?_)
  intro ⟨k, hk, hmk⟩
  have z : 0 + k = k := Nat.zero_add k
  intro _; refine ⟨fun g => ?_, fun g => ?_⟩
  · have hkl := of_decide_eq_true (show decide ((k : Int) < (H.length : Int)) = true from g)
    intro _; refine ⟨show 0 ≤ (k : Int) ∧ (k : Int) < (H.length : Int) by omega, ?_⟩
    intro _; refine ⟨show 0 + (k : Int).toNat < H.length by omega, ?_⟩
    intro _; refine ⟨fun g => ?_, fun g => ?_⟩
    · have g : decide (at' H (0 + k) < 0) = true := g
      rw [z] at g
      have g := of_decide_eq_true g
      intro _
      exact bad (fun h => by have := h.2.2.2.2 k (by omega); omega) _ _ rfl
    have g : decide (at' H (0 + k) < 0) = false := g
    rw [z] at g
    have g1 := of_decide_eq_false g
    intro _; refine ⟨fun g => ?_, fun g => ?_⟩
    · have g : decide (at' H (0 + k) > 1000000000) = true := g
      rw [z] at g
      have g := of_decide_eq_true g
      intro _
      exact bad (fun h => by have := h.2.2.2.2 k (by omega); omega) _ _ rfl
    have g : decide (at' H (0 + k) > 1000000000) = false := g
    rw [z] at g
    have g2 := of_decide_eq_false g
    refine ⟨⟨k + 1, by omega, fun i hi => ?_⟩, by simp; omega, th [] 3, rfl, rfl, rfl, rfl, rfl, rfl, ?_, ?_⟩
    · by_cases e : i = k
      · subst e; omega
      · exact hmk i (by omega)
    · (repeat' first | exact trivial | exact rfl | refine And.intro ?_ ?_)
      exact (wrap_nat k (by omega)).symm
    · (repeat' first | exact trivial | exact rfl | refine And.intro ?_ ?_)
  have hkl := of_decide_eq_false (show decide ((k : Int) < (H.length : Int)) = false from g)
  have hkl : k = H.length := by omega
  subst hkl
  have hP : POk W H gp al s := ⟨hS, hHW, by omega, hs, hmk⟩
  have e2 : pl W H gp al s = (rtab W.length (bx W H gp (frm W gp al s)), hm H H.length, 0) := by unfold pl; rw [if_pos hP]
  have ho := ov_bd hS hs
  have hf := frm_bd (al := al) hS hs (by omega)
  have eN : IntKind.i64.wrap ((W.length : Int) - 1) = (W.length : Int) - 1 := wrapS _ ⟨by omega, by omega⟩
  have eNt : ((W.length : Int) - 1).toNat = W.length - 1 := by omega
  have spl : (sr W gp).1.getD (W.length - 1) 0 = sp W gp (W.length - 1) := by rw [e1]; exact tab_get _ (by omega)
  have spb := sp_bd hS.2.1 (W.length - 1) (by omega) (fun i hi => hS.2.2 i (by omega))
  have wb := hS.2.2 (W.length - 1) (by omega)
  have eO : max (IntKind.i64.wrap (IntKind.i64.wrap (s - (sr W gp).1.getD (IntKind.i64.wrap ((W.length : Int) - 1)).toNat 0) - at' W (0 + (IntKind.i64.wrap ((W.length : Int) - 1)).toNat))) 0 = ov W gp s := by
    rw [eN, eNt, Nat.zero_add, spl]
    have wb1 : 0 ≤ at' W (W.length - 1) ∧ at' W (W.length - 1) ≤ 1000000 := wb
    have h1 := sp_sum W gp (W.length - 1)
    have h2 : sm (at' W) W.length = sm (at' W) (W.length - 1) + at' W (W.length - 1) := by
      have : W.length = (W.length - 1) + 1 := by omega
      rw [this]; rfl
    have h3 : ((W.length - 1 : Nat) : Int) = (W.length : Int) - 1 := by omega
    rw [h3] at h1
    rw [wrapS (s - sp W gp (W.length - 1)) ⟨by omega, by omega⟩, wrapS _ ⟨by omega, by omega⟩]
    unfold ov
    rw [h2]
    omega
  have n1 : 0 ≤ IntKind.i64.wrap ((W.length : Int) - 1) ∧ IntKind.i64.wrap ((W.length : Int) - 1) < ((sr W gp).1.length : Int) := by rw [eN, eL]; omega
  have n2 : (IntKind.i64.wrap ((W.length : Int) - 1)).toNat < List.length (sr W gp).1 := by rw [eN, eNt, eL]; omega
  have n3 : 0 ≤ IntKind.i64.wrap ((W.length : Int) - 1) ∧ IntKind.i64.wrap ((W.length : Int) - 1) < (W.length : Int) := by rw [eN]; omega
  have n4 : 0 + (IntKind.i64.wrap ((W.length : Int) - 1)).toNat < W.length := by rw [eN, eNt]; omega
  rcases (show al = 0 ∨ al = 1 ∨ al = 2 by omega) with rfl | rfl | rfl
  · intro _; refine ⟨n1, ?_⟩
    intro _; refine ⟨n2, ?_⟩
    intro _; refine ⟨n3, ?_⟩
    intro _; refine ⟨n4, ?_⟩
    intro _
    refine Or.inl ?_
    intro _
    refine enter tt_ok Try.func35 (nt := 3) (cd := body Try.f35) rfl rfl rfl rfl ?_
    intro _
    intro _; refine ⟨by kernel_rfl, ?_⟩
    have eRaw : frm W gp 0 s = 0 := hf.2.2.1 rfl
    intro _
    refine enter tt_ok Try.func38 (nt := 8) (cd := body Try.f38) rfl rfl rfl rfl ?_
    intro _
    intro _
    refine range_ok ?_
    intro _
    refine enter tt_ok Try.func47 (nt := 28) (cd := body Try.f47) rfl rfl rfl rfl ?_
    intro _
    refine loop2 tt_ok [9] [4, 5, 6, 12] 13 (fun k : Fin (W.length + 1) => [(9, .int .i64 (k : Nat))]) (fun k => [(4, .cells [.int .i64 (frm W gp 0 s)]), (5, .cells [.grw 12 (k : Nat)]), (6, .cells [.int .i64 (hm H k)]), (12, .arr [.int .i64, .int .i64, .int .i64, .int .i64, .int .i64, .bool, .nils] .grow (.recs (rtab (k : Nat) (bx W H gp (frm W gp 0 s)))))]) (fun k => W.length - k) ⟨0, by omega⟩ ?_
    intro _
    refine ⟨⟨th [(12, none)] 13, rfl, rfl, rfl, rfl, rfl, rfl, ?_, ?_⟩, ?_⟩
    · (repeat' first | exact trivial | exact rfl | refine And.intro ?_ ?_)
    · (repeat' first | exact trivial | exact rfl | refine And.intro ?_ ?_)
      exact eRaw
    intro ⟨k, hk⟩
    have z : 0 + k = k := Nat.zero_add k
    intro _; refine ⟨fun g => ?_, fun g => ?_⟩
    · have g : decide ((k : Int) < ((sr W gp).1.length : Int)) = true := g
      rw [eL] at g
      have hkl := of_decide_eq_true g
      have hkn : k < W.length := by omega
      have es : (sr W gp).1.getD k 0 = sp W gp k := by rw [e1]; exact tab_get _ hkn
      have sb := sp_bd hS.2.1 k (by omega) (fun i hi => hS.2.2 i (by omega))
      intro _; refine ⟨show 0 ≤ (k : Int) ∧ (k : Int) < ((sr W gp).1.length : Int) by rw [eL]; omega, ?_⟩
      intro _; refine ⟨show (k : Int).toNat < List.length (sr W gp).1 by rw [eL]; omega, ?_⟩
      intro _; refine ⟨show 0 ≤ (k : Int) ∧ (k : Int) < (W.length : Int) by omega, ?_⟩
      intro _; refine ⟨show 0 + (k : Int).toNat < W.length by omega, ?_⟩
      intro _; refine ⟨show 0 ≤ (k : Int) ∧ (k : Int) < (H.length : Int) by omega, ?_⟩
      intro _; refine ⟨show 0 + (k : Int).toNat < H.length by omega, ?_⟩
      intro _
      refine Or.inr ?_
      intro _
      refine yield_ok tt_ok ?_
      intro _; refine ⟨rfl, ?_⟩
      intro _; refine ⟨fun g3 => by simp at g3, fun _ => ?_⟩
      refine ⟨⟨(rtab_len k _).symm, show k + 1 ≤ 4611686018427387904 by omega, show (k + 1) * 72 ≤ 70368744177664 by omega⟩, ?_⟩
      intro _
      intro _; refine ⟨by kernel_rfl, ?_⟩
      refine ⟨⟨k + 1, by omega⟩, by simp; omega, th [(12, some 15)] 13, rfl, rfl, rfl, rfl, rfl, rfl, ?_, ?_⟩
      · (repeat' first | exact trivial | exact rfl | refine And.intro ?_ ?_)
        exact (wrap_nat k (by omega)).symm
      · (repeat' first | exact trivial | exact rfl | refine And.intro ?_ ?_)
        · show hm H (k + 1) = max (hm H k) (at' H (0 + k))
          rw [z]; rfl
        · show rtab (k + 1) (bx W H gp (frm W gp 0 s)) = rtab k (bx W H gp (frm W gp 0 s)) ++ [[D.n 0, D.n (IntKind.i64.wrap ((sr W gp).1.getD k 0 + frm W gp 0 s)), D.n 0, D.n (at' W (0 + k)), D.n (at' H (0 + k)), D.b false, D.n 0]]
          rw [rtab_app, z, es, wrapS _ ⟨by omega, by omega⟩]
          rfl
    have g : decide ((k : Int) < ((sr W gp).1.length : Int)) = false := g
    rw [eL] at g
    have hkl := of_decide_eq_false g
    have hkl : k = W.length := by omega
    subst hkl

    intro _
    intro _; refine ⟨by kernel_rfl, ?_⟩
    intro _
    refine ⟨[(2, some 12)], .tup [.grw 2 (pl W H gp 0 s).1.length, .int .i64 (pl W H gp 0 s).2.1, .int .i64 (pl W H gp 0 s).2.2], ⟨3, 2, [(2, .arr [.int .i64, .int .i64, .int .i64, .int .i64, .int .i64, .bool, .nils] .grow (.recs (pl W H gp 0 s).1))]⟩, rfl, rfl, rfl, rfl, ?_, ?_, ⟨rfl, rfl⟩⟩
    · rw [e2]
      (repeat' first | exact trivial | exact rfl | refine And.intro ?_ ?_)
      · exact rtab_len _ _
      · show hm H H.length = hm H W.length
        rw [hHW]
    · rw [e2]
      (repeat' first | exact trivial | exact rfl | refine And.intro ?_ ?_)
  · intro _; refine ⟨n1, ?_⟩
    intro _; refine ⟨n2, ?_⟩
    intro _; refine ⟨n3, ?_⟩
    intro _; refine ⟨n4, ?_⟩
    intro _
    refine Or.inl ?_
    intro _
    refine enter tt_ok Try.func36 (nt := 5) (cd := body Try.f36) rfl rfl rfl rfl ?_
    intro _; refine ⟨by decide, ?_⟩
    intro _
    intro _; refine ⟨by kernel_rfl, ?_⟩
    have eRaw : frm W gp 1 s = IntKind.i64.wrap ((max (IntKind.i64.wrap (IntKind.i64.wrap (s - (sr W gp).1.getD (IntKind.i64.wrap ((W.length : Int) - 1)).toNat 0) - at' W (0 + (IntKind.i64.wrap ((W.length : Int) - 1)).toNat))) 0).tdiv 2) := by
      rw [eO, hf.2.2.2.1 rfl]
      exact (wrapS _ ⟨by rw [← hf.2.2.2.1 rfl]; omega, by rw [← hf.2.2.2.1 rfl]; omega⟩).symm
    intro _
    refine enter tt_ok Try.func38 (nt := 8) (cd := body Try.f38) rfl rfl rfl rfl ?_
    intro _
    intro _
    refine range_ok ?_
    intro _
    refine enter tt_ok Try.func47 (nt := 28) (cd := body Try.f47) rfl rfl rfl rfl ?_
    intro _
    refine loop2 tt_ok [9] [4, 5, 6, 12] 13 (fun k : Fin (W.length + 1) => [(9, .int .i64 (k : Nat))]) (fun k => [(4, .cells [.int .i64 (frm W gp 1 s)]), (5, .cells [.grw 12 (k : Nat)]), (6, .cells [.int .i64 (hm H k)]), (12, .arr [.int .i64, .int .i64, .int .i64, .int .i64, .int .i64, .bool, .nils] .grow (.recs (rtab (k : Nat) (bx W H gp (frm W gp 1 s)))))]) (fun k => W.length - k) ⟨0, by omega⟩ ?_
    intro _
    refine ⟨⟨th [(12, none)] 13, rfl, rfl, rfl, rfl, rfl, rfl, ?_, ?_⟩, ?_⟩
    · (repeat' first | exact trivial | exact rfl | refine And.intro ?_ ?_)
    · (repeat' first | exact trivial | exact rfl | refine And.intro ?_ ?_)
      exact eRaw
    intro ⟨k, hk⟩
    have z : 0 + k = k := Nat.zero_add k
    intro _; refine ⟨fun g => ?_, fun g => ?_⟩
    · have g : decide ((k : Int) < ((sr W gp).1.length : Int)) = true := g
      rw [eL] at g
      have hkl := of_decide_eq_true g
      have hkn : k < W.length := by omega
      have es : (sr W gp).1.getD k 0 = sp W gp k := by rw [e1]; exact tab_get _ hkn
      have sb := sp_bd hS.2.1 k (by omega) (fun i hi => hS.2.2 i (by omega))
      intro _; refine ⟨show 0 ≤ (k : Int) ∧ (k : Int) < ((sr W gp).1.length : Int) by rw [eL]; omega, ?_⟩
      intro _; refine ⟨show (k : Int).toNat < List.length (sr W gp).1 by rw [eL]; omega, ?_⟩
      intro _; refine ⟨show 0 ≤ (k : Int) ∧ (k : Int) < (W.length : Int) by omega, ?_⟩
      intro _; refine ⟨show 0 + (k : Int).toNat < W.length by omega, ?_⟩
      intro _; refine ⟨show 0 ≤ (k : Int) ∧ (k : Int) < (H.length : Int) by omega, ?_⟩
      intro _; refine ⟨show 0 + (k : Int).toNat < H.length by omega, ?_⟩
      intro _
      refine Or.inr ?_
      intro _
      refine yield_ok tt_ok ?_
      intro _; refine ⟨rfl, ?_⟩
      intro _; refine ⟨fun g3 => by simp at g3, fun _ => ?_⟩
      refine ⟨⟨(rtab_len k _).symm, show k + 1 ≤ 4611686018427387904 by omega, show (k + 1) * 72 ≤ 70368744177664 by omega⟩, ?_⟩
      intro _
      intro _; refine ⟨by kernel_rfl, ?_⟩
      refine ⟨⟨k + 1, by omega⟩, by simp; omega, th [(12, some 15)] 13, rfl, rfl, rfl, rfl, rfl, rfl, ?_, ?_⟩
      · (repeat' first | exact trivial | exact rfl | refine And.intro ?_ ?_)
        exact (wrap_nat k (by omega)).symm
      · (repeat' first | exact trivial | exact rfl | refine And.intro ?_ ?_)
        · show hm H (k + 1) = max (hm H k) (at' H (0 + k))
          rw [z]; rfl
        · show rtab (k + 1) (bx W H gp (frm W gp 1 s)) = rtab k (bx W H gp (frm W gp 1 s)) ++ [[D.n 0, D.n (IntKind.i64.wrap ((sr W gp).1.getD k 0 + frm W gp 1 s)), D.n 0, D.n (at' W (0 + k)), D.n (at' H (0 + k)), D.b false, D.n 0]]
          rw [rtab_app, z, es, wrapS _ ⟨by omega, by omega⟩]
          rfl
    have g : decide ((k : Int) < ((sr W gp).1.length : Int)) = false := g
    rw [eL] at g
    have hkl := of_decide_eq_false g
    have hkl : k = W.length := by omega
    subst hkl

    intro _
    intro _; refine ⟨by kernel_rfl, ?_⟩
    intro _
    refine ⟨[(2, some 12)], .tup [.grw 2 (pl W H gp 1 s).1.length, .int .i64 (pl W H gp 1 s).2.1, .int .i64 (pl W H gp 1 s).2.2], ⟨3, 2, [(2, .arr [.int .i64, .int .i64, .int .i64, .int .i64, .int .i64, .bool, .nils] .grow (.recs (pl W H gp 1 s).1))]⟩, rfl, rfl, rfl, rfl, ?_, ?_, ⟨rfl, rfl⟩⟩
    · rw [e2]
      (repeat' first | exact trivial | exact rfl | refine And.intro ?_ ?_)
      · exact rtab_len _ _
      · show hm H H.length = hm H W.length
        rw [hHW]
    · rw [e2]
      (repeat' first | exact trivial | exact rfl | refine And.intro ?_ ?_)
  · intro _; refine ⟨n1, ?_⟩
    intro _; refine ⟨n2, ?_⟩
    intro _; refine ⟨n3, ?_⟩
    intro _; refine ⟨n4, ?_⟩
    intro _
    refine Or.inl ?_
    intro _
    refine enter tt_ok Try.func37 (nt := 4) (cd := body Try.f37) rfl rfl rfl rfl ?_
    intro _
    intro _; refine ⟨by kernel_rfl, ?_⟩
    have eRaw : frm W gp 2 s = max (IntKind.i64.wrap (IntKind.i64.wrap (s - (sr W gp).1.getD (IntKind.i64.wrap ((W.length : Int) - 1)).toNat 0) - at' W (0 + (IntKind.i64.wrap ((W.length : Int) - 1)).toNat))) 0 := by rw [eO]; exact hf.2.2.2.2 rfl
    intro _
    refine enter tt_ok Try.func38 (nt := 8) (cd := body Try.f38) rfl rfl rfl rfl ?_
    intro _
    intro _
    refine range_ok ?_
    intro _
    refine enter tt_ok Try.func47 (nt := 28) (cd := body Try.f47) rfl rfl rfl rfl ?_
    intro _
    refine loop2 tt_ok [9] [4, 5, 6, 12] 13 (fun k : Fin (W.length + 1) => [(9, .int .i64 (k : Nat))]) (fun k => [(4, .cells [.int .i64 (frm W gp 2 s)]), (5, .cells [.grw 12 (k : Nat)]), (6, .cells [.int .i64 (hm H k)]), (12, .arr [.int .i64, .int .i64, .int .i64, .int .i64, .int .i64, .bool, .nils] .grow (.recs (rtab (k : Nat) (bx W H gp (frm W gp 2 s)))))]) (fun k => W.length - k) ⟨0, by omega⟩ ?_
    intro _
    refine ⟨⟨th [(12, none)] 13, rfl, rfl, rfl, rfl, rfl, rfl, ?_, ?_⟩, ?_⟩
    · (repeat' first | exact trivial | exact rfl | refine And.intro ?_ ?_)
    · (repeat' first | exact trivial | exact rfl | refine And.intro ?_ ?_)
      exact eRaw
    intro ⟨k, hk⟩
    have z : 0 + k = k := Nat.zero_add k
    intro _; refine ⟨fun g => ?_, fun g => ?_⟩
    · have g : decide ((k : Int) < ((sr W gp).1.length : Int)) = true := g
      rw [eL] at g
      have hkl := of_decide_eq_true g
      have hkn : k < W.length := by omega
      have es : (sr W gp).1.getD k 0 = sp W gp k := by rw [e1]; exact tab_get _ hkn
      have sb := sp_bd hS.2.1 k (by omega) (fun i hi => hS.2.2 i (by omega))
      intro _; refine ⟨show 0 ≤ (k : Int) ∧ (k : Int) < ((sr W gp).1.length : Int) by rw [eL]; omega, ?_⟩
      intro _; refine ⟨show (k : Int).toNat < List.length (sr W gp).1 by rw [eL]; omega, ?_⟩
      intro _; refine ⟨show 0 ≤ (k : Int) ∧ (k : Int) < (W.length : Int) by omega, ?_⟩
      intro _; refine ⟨show 0 + (k : Int).toNat < W.length by omega, ?_⟩
      intro _; refine ⟨show 0 ≤ (k : Int) ∧ (k : Int) < (H.length : Int) by omega, ?_⟩
      intro _; refine ⟨show 0 + (k : Int).toNat < H.length by omega, ?_⟩
      intro _
      refine Or.inr ?_
      intro _
      refine yield_ok tt_ok ?_
      intro _; refine ⟨rfl, ?_⟩
      intro _; refine ⟨fun g3 => by simp at g3, fun _ => ?_⟩
      refine ⟨⟨(rtab_len k _).symm, show k + 1 ≤ 4611686018427387904 by omega, show (k + 1) * 72 ≤ 70368744177664 by omega⟩, ?_⟩
      intro _
      intro _; refine ⟨by kernel_rfl, ?_⟩
      refine ⟨⟨k + 1, by omega⟩, by simp; omega, th [(12, some 15)] 13, rfl, rfl, rfl, rfl, rfl, rfl, ?_, ?_⟩
      · (repeat' first | exact trivial | exact rfl | refine And.intro ?_ ?_)
        exact (wrap_nat k (by omega)).symm
      · (repeat' first | exact trivial | exact rfl | refine And.intro ?_ ?_)
        · show hm H (k + 1) = max (hm H k) (at' H (0 + k))
          rw [z]; rfl
        · show rtab (k + 1) (bx W H gp (frm W gp 2 s)) = rtab k (bx W H gp (frm W gp 2 s)) ++ [[D.n 0, D.n (IntKind.i64.wrap ((sr W gp).1.getD k 0 + frm W gp 2 s)), D.n 0, D.n (at' W (0 + k)), D.n (at' H (0 + k)), D.b false, D.n 0]]
          rw [rtab_app, z, es, wrapS _ ⟨by omega, by omega⟩]
          rfl
    have g : decide ((k : Int) < ((sr W gp).1.length : Int)) = false := g
    rw [eL] at g
    have hkl := of_decide_eq_false g
    have hkl : k = W.length := by omega
    subst hkl

    intro _
    intro _; refine ⟨by kernel_rfl, ?_⟩
    intro _
    refine ⟨[(2, some 12)], .tup [.grw 2 (pl W H gp 2 s).1.length, .int .i64 (pl W H gp 2 s).2.1, .int .i64 (pl W H gp 2 s).2.2], ⟨3, 2, [(2, .arr [.int .i64, .int .i64, .int .i64, .int .i64, .int .i64, .bool, .nils] .grow (.recs (pl W H gp 2 s).1))]⟩, rfl, rfl, rfl, rfl, ?_, ?_, ⟨rfl, rfl⟩⟩
    · rw [e2]
      (repeat' first | exact trivial | exact rfl | refine And.intro ?_ ?_)
      · exact rtab_len _ _
      · show hm H H.length = hm H W.length
        rw [hHW]
    · rw [e2]
      (repeat' first | exact trivial | exact rfl | refine And.intro ?_ ?_)
theorem sizes_ok (L : List Int) (most : Int) (hL : L.length ≤ 9223372036854775807) : SemF Try.prog 39 [.slc 0 1 0 L.length, .int .i64 most] ⟨1, 1, [(0, .arr [.int .i64] .rd (.ints L))]⟩ (fun v _ => v = .test (decide (Sz L most)) ∧ nameless v = true) := by
  refine SemF.test ?_
  refine enter tt_ok Try.func39 (nt := 33) (cd := body Try.f39) rfl rfl rfl rfl ?_
  intro _
  refine loop2 tt_ok [5] [] 1 (fun k : { k : Nat // k ≤ L.length ∧ ∀ i, i < k → 0 ≤ at' L i ∧ at' L i ≤ most } => [(5, .int .i64 (k : Nat))]) (fun _ => []) (fun k => L.length - k) ⟨0, by omega, fun i h => by omega⟩ ?_
  intro _
  refine ⟨⟨th [] 1, rfl, rfl, rfl, rfl, rfl, rfl, ?_, ?_⟩, ?_⟩
  · (repeat' first | exact trivial | exact rfl | refine And.intro ?_ ?_)
  · (repeat' first | exact trivial | exact rfl | refine And.intro ?_ ?_)
  intro ⟨k, hk, hmk⟩
  have z : 0 + k = k := Nat.zero_add k
  intro _; refine ⟨fun g => ?_, fun g => ?_⟩
  · have hkl := of_decide_eq_true (show decide ((k : Int) < (L.length : Int)) = true from g)
    have i1 : 0 ≤ (k : Int) ∧ (k : Int) < (L.length : Int) := by omega
    have i2 : 0 + (k : Int).toNat < L.length := by omega
    intro _; refine ⟨i1, ?_⟩
    intro _; refine ⟨i2, ?_⟩
    intro _; refine ⟨fun g => ?_, fun g => ?_⟩
    · have g : decide (at' L (0 + k) < 0) = true := g
      rw [z] at g
      have g := of_decide_eq_true g
      intro _
      exact ⟨false, .inl rfl, by rw [decide_eq_false (fun h : Sz L most => by have := h.2 k (by omega); omega)], rfl⟩
    have g : decide (at' L (0 + k) < 0) = false := g
    rw [z] at g
    have g1 := of_decide_eq_false g
    intro _; refine ⟨i1, ?_⟩
    intro _; refine ⟨i2, ?_⟩
    intro _; refine ⟨fun g => ?_, fun g => ?_⟩
    · have g : decide (at' L (0 + k) > most) = true := g
      rw [z] at g
      have g := of_decide_eq_true g
      intro _
      exact ⟨false, .inl rfl, by rw [decide_eq_false (fun h : Sz L most => by have := h.2 k (by omega); omega)], rfl⟩
    have g : decide (at' L (0 + k) > most) = false := g
    rw [z] at g
    have g2 := of_decide_eq_false g
    refine ⟨⟨k + 1, by omega, fun i hi => ?_⟩, by simp; omega, th [] 1, rfl, rfl, rfl, rfl, rfl, rfl, ?_, ?_⟩
    · by_cases e : i = k
      · subst e; omega
      · exact hmk i (by omega)
    · (repeat' first | exact trivial | exact rfl | refine And.intro ?_ ?_)
      exact (wrap_nat k (by omega)).symm
    · (repeat' first | exact trivial | exact rfl | refine And.intro ?_ ?_)
  · have hkl := of_decide_eq_false (show decide ((k : Int) < (L.length : Int)) = false from g)
    have hkl : k = L.length := by omega
    subst hkl
    have e0 : decide (Sz L most) = decide (1 ≤ L.length ∧ L.length ≤ 64) := by
      by_cases e : 1 ≤ L.length ∧ L.length ≤ 64
      · rw [decide_eq_true e, decide_eq_true (show Sz L most from ⟨e, hmk⟩)]
      · rw [decide_eq_false e, decide_eq_false (fun h : Sz L most => e h.1)]
    intro _; refine ⟨fun g => ?_, fun g => ?_⟩
    · have g := of_decide_eq_true (show decide ((L.length : Int) ≥ 1) = true from g)
      intro _
      refine ⟨_, .inr rfl, ?_, rfl⟩
      rw [e0]
      by_cases e : L.length ≤ 64
      · rw [decide_eq_true (show (L.length : Int) ≤ 64 by omega), decide_eq_true (show 1 ≤ L.length ∧ L.length ≤ 64 by omega)]
      · rw [decide_eq_false (show ¬ (L.length : Int) ≤ 64 by omega), decide_eq_false (show ¬ (1 ≤ L.length ∧ L.length ≤ 64) by omega)]
    · have g := of_decide_eq_false (show decide ((L.length : Int) ≥ 1) = false from g)
      intro _
      exact ⟨false, .inl rfl, by rw [e0, decide_eq_false (show ¬ (1 ≤ L.length ∧ L.length ≤ 64) by omega)], rfl⟩
theorem over_ok (W : List Int) (gp s : Int) (h : SOk W gp) (hs : 0 ≤ s ∧ s ≤ 1000000) : SemF Try.prog 40 [.slc 0 1 0 W.length, .int .i64 gp, .int .i64 s] ⟨1, 1, [(0, .arr [.int .i64] .rd (.ints W))]⟩ (fun v _ => v = .int .i64 (ov W gp s) ∧ nameless v = true) := by
  refine enter tt_ok Try.func40 (nt := 30) (cd := body Try.f40) rfl rfl rfl rfl ?_
  have ho := ov_bd h hs
  have h64 := h.1
  have eL0 : IntKind.i64.wrap (s - IntKind.i64.wrap (gp * IntKind.i64.wrap ((W.length : Int) - 1))) = s - gp * ((W.length : Int) - 1) := by
    rw [wrapS ((W.length : Int) - 1) ⟨by omega, by omega⟩, wrapS (gp * ((W.length : Int) - 1)) ⟨by omega, by omega⟩, wrapS _ ⟨by omega, by omega⟩]
  have hb : ∀ k, k ≤ W.length → 0 ≤ sm (at' W) k ∧ sm (at' W) k ≤ k * 1000000 := fun k hk => by
    induction k with
    | zero => simp [sm]
    | succ k ih =>
      have := ih (by omega)
      have h2 : 0 ≤ at' W k ∧ at' W k ≤ 1000000 := h.2.2 k (by omega)
      simp only [sm]; omega
  intro _
  refine loop2 tt_ok [8, 7] [] 1 (fun k : Fin (W.length + 1) => [(8, .int .i64 (k : Nat)), (7, .int .i64 (s - gp * ((W.length : Int) - 1) - sm (at' W) k))]) (fun _ => []) (fun k => W.length - k) ⟨0, by omega⟩ ?_
  intro _
  refine ⟨⟨th [] 1, rfl, rfl, rfl, rfl, rfl, rfl, ?_, ?_⟩, ?_⟩
  · (repeat' first | exact trivial | exact rfl | refine And.intro ?_ ?_)
    show s - gp * ((W.length : Int) - 1) - 0 = IntKind.i64.wrap (s - IntKind.i64.wrap (gp * IntKind.i64.wrap ((W.length : Int) - 1)))
    rw [eL0]; omega
  · (repeat' first | exact trivial | exact rfl | refine And.intro ?_ ?_)
  intro ⟨k, hk⟩
  have z : 0 + k = k := Nat.zero_add k
  intro _; refine ⟨fun g => ?_, fun g => ?_⟩
  · have hkl := of_decide_eq_true (show decide ((k : Int) < (W.length : Int)) = true from g)
    have b1 := hb k (by omega)
    have h2 : 0 ≤ at' W k ∧ at' W k ≤ 1000000 := h.2.2 k (by omega)
    intro _; refine ⟨show 0 ≤ (k : Int) ∧ (k : Int) < (W.length : Int) by omega, ?_⟩
    intro _; refine ⟨show 0 + (k : Int).toNat < W.length by omega, ?_⟩
    refine ⟨⟨k + 1, by omega⟩, by simp; omega, th [] 1, rfl, rfl, rfl, rfl, rfl, rfl, ?_, ?_⟩
    · (repeat' first | exact trivial | exact rfl | refine And.intro ?_ ?_)
      · exact (wrap_nat k (by omega)).symm
      · show s - gp * ((W.length : Int) - 1) - sm (at' W) (k + 1) = IntKind.i64.wrap (s - gp * ((W.length : Int) - 1) - sm (at' W) k - at' W (0 + k))
        rw [z, wrapS _ ⟨by omega, by omega⟩]; simp only [sm]; omega
    · (repeat' first | exact trivial | exact rfl | refine And.intro ?_ ?_)
  · have hkl := of_decide_eq_false (show decide ((k : Int) < (W.length : Int)) = false from g)
    have hkl : k = W.length := by omega
    subst hkl
    intro _
    exact ⟨rfl, rfl⟩
theorem rplace_ok (W H : List Int) (gp al s : Int) (hW : W.length ≤ 70) (hH : H.length ≤ 70) : SemF Try.prog 21 [.slc 0 1 0 W.length, .slc 1 1 0 H.length, .int .i64 gp, .int .i64 al, .int .i64 s] ⟨2, 2, [(0, .arr [.int .i64] .rd (.ints W)), (1, .arr [.int .i64] .rd (.ints H))]⟩ (PlQ W H gp al s) := by
  refine SemF.ret ?_
  refine enter tt_ok Try.func21 (nt := 102) (cd := body Try.f21) rfl rfl rfl rfl ?_
  have bad : ¬ POk W H gp al s → ∀ nx hx, Nat.ble 2 nx = true → Ret 2 (PlQ W H gp al s) (.tup [.nils, .int .i64 0, .int .i64 1]) ⟨nx, 2, hx⟩ := fun he nx hx hn => by
    have e1 : pl W H gp al s = ([], 0, 1) := by unfold pl; rw [if_neg he]
    refine ⟨[(2, none)], .tup [.grw 2 0, .int .i64 0, .int .i64 1], ⟨3, 2, [(2, .arr [.int .i64, .int .i64, .int .i64, .int .i64, .int .i64, .bool, .nils] .grow (.recs []))]⟩, rfl, rfl, rfl, rfl, ?_, ?_, ?_, ?_⟩
    · (repeat' first | exact trivial | exact rfl | refine And.intro ?_ ?_)
    · (repeat' first | exact trivial | exact rfl | refine And.intro ?_ ?_)
    · rw [e1]; rfl
    · rw [e1]
  intro _
  refine call_pure [(0, some 0)] (sizes_ok W 1000000 (by omega)) rfl rfl rfl ?_ ?_ ?_
  · (repeat' first | exact trivial | exact rfl | refine And.intro ?_ ?_)
  · (repeat' first | exact trivial | exact rfl | refine And.intro ?_ ?_)
  intro v hv _
  subst hv
  intro _
  refine call_pure [(0, some 1)] (sizes_ok H 1000000000 (by omega)) rfl rfl rfl ?_ ?_ ?_
  · (repeat' first | exact trivial | exact rfl | refine And.intro ?_ ?_)
  · (repeat' first | exact trivial | exact rfl | refine And.intro ?_ ?_)
  intro v hv _
  subst hv
  intro _; refine ⟨fun g => ?_, fun g => ?_⟩
  · have g : (!decide (Sz W 1000000)) = true := g
    rw [Bool.not_eq_true'] at g
    have g := of_decide_eq_false g
    intro _
    exact bad (fun h => g ⟨h.1.1, h.1.2.2⟩) _ _ rfl
  have g : (!decide (Sz W 1000000)) = false := g
  rw [Bool.not_eq_false'] at g
  have zW := of_decide_eq_true g
  intro _; refine ⟨fun g => ?_, fun g => ?_⟩
  · have g : (!decide (Sz H 1000000000)) = true := g
    rw [Bool.not_eq_true'] at g
    have g := of_decide_eq_false g
    intro _
    exact bad (fun h => g ⟨by rw [h.2.1]; exact h.1.1, h.2.2.2.2⟩) _ _ rfl
  have g : (!decide (Sz H 1000000000)) = false := g
  rw [Bool.not_eq_false'] at g
  have zH := of_decide_eq_true g
  intro _; refine ⟨fun g => ?_, fun g => ?_⟩
  · have g : ((W.length : Int) != (H.length : Int)) = true := g
    intro _
    exact bad (fun h => by rw [h.2.1] at g; simp at g) _ _ rfl
  have g : ((W.length : Int) != (H.length : Int)) = false := g
  have hHW : H.length = W.length := by
    have g2 : (W.length : Int) = (H.length : Int) := by simpa using g
    omega
  intro _; refine ⟨fun g => ?_, fun g => ?_⟩
  · have g := of_decide_eq_true (show decide (gp < 0) = true from g)
    intro _
    exact bad (fun h => by have := h.1.2.1; omega) _ _ rfl
  have p1 := of_decide_eq_false (show decide (gp < 0) = false from g)
  intro _; refine ⟨fun g => ?_, fun g => ?_⟩
  · have g := of_decide_eq_true (show decide (gp > 100000) = true from g)
    intro _
    exact bad (fun h => by have := h.1.2.1; omega) _ _ rfl
  have p2 := of_decide_eq_false (show decide (gp > 100000) = false from g)
  intro _; refine ⟨fun g => ?_, fun g => ?_⟩
  · have g := of_decide_eq_true (show decide (al < 0) = true from g)
    intro _
    exact bad (fun h => by have := h.2.2.1; omega) _ _ rfl
  have a1 := of_decide_eq_false (show decide (al < 0) = false from g)
  intro _; refine ⟨fun g => ?_, fun g => ?_⟩
  · have g := of_decide_eq_true (show decide (al > 2) = true from g)
    intro _
    exact bad (fun h => by have := h.2.2.1; omega) _ _ rfl
  have a2 := of_decide_eq_false (show decide (al > 2) = false from g)
  intro _; refine ⟨fun g => ?_, fun g => ?_⟩
  · have g := of_decide_eq_true (show decide (s < 0) = true from g)
    intro _
    exact bad (fun h => by have := h.2.2.2.1; omega) _ _ rfl
  have s1 := of_decide_eq_false (show decide (s < 0) = false from g)
  intro _; refine ⟨fun g => ?_, fun g => ?_⟩
  · have g := of_decide_eq_true (show decide (s > 1000000) = true from g)
    intro _
    exact bad (fun h => by have := h.2.2.2.1; omega) _ _ rfl
  have s2 := of_decide_eq_false (show decide (s > 1000000) = false from g)
  have hS : SOk W gp := ⟨zW.1, ⟨by omega, by omega⟩, zW.2⟩
  have hs : 0 ≤ s ∧ s ≤ 1000000 := ⟨by omega, by omega⟩
  have hP : POk W H gp al s := ⟨hS, hHW, by omega, hs, zH.2⟩
  have e2 : pl W H gp al s = (rtab W.length (bx W H gp (frm W gp al s)), hm H H.length, 0) := by unfold pl; rw [if_pos hP]
  have ho := ov_bd hS hs
  have hf := frm_bd (al := al) hS hs (by omega)
  have h64 := hS.1
  have hoa : 0 ≤ ov W gp s * al ∧ ov W gp s * al ≤ 2000000 := by
    refine ⟨Int.mul_nonneg ho.1 (by omega), ?_⟩
    have h1 : ov W gp s * al ≤ ov W gp s * 2 := Int.mul_le_mul_of_nonneg_left (by omega) ho.1
    omega
  intro _
  refine call_pure [(0, some 0)] (over_ok W gp s hS hs) rfl rfl rfl ?_ ?_ ?_
  · (repeat' first | exact trivial | exact rfl | refine And.intro ?_ ?_)
  · (repeat' first | exact trivial | exact rfl | refine And.intro ?_ ?_)
  intro v hv _
  subst hv
  intro _; refine ⟨by decide, ?_⟩
  intro _
  refine loop2 tt_ok [18, 15, 16, 17] [2] 3 (fun k : Fin (W.length + 1) => [(18, .int .i64 (k : Nat)), (15, .int .i64 (sp W gp k + frm W gp al s)), (16, .int .i64 (hm H k)), (17, .grw 2 (k : Nat))]) (fun k => [(2, .arr [.int .i64, .int .i64, .int .i64, .int .i64, .int .i64, .bool, .nils] .grow (.recs (rtab (k : Nat) (bx W H gp (frm W gp al s)))))]) (fun k => W.length - k) ⟨0, by omega⟩ ?_
  intro _
  refine ⟨⟨th [(2, none)] 3, rfl, rfl, rfl, rfl, rfl, rfl, ?_, ?_⟩, ?_⟩
  · (repeat' first | exact trivial | exact rfl | refine And.intro ?_ ?_)
    show 0 + frm W gp al s = IntKind.i64.wrap ((IntKind.i64.wrap (ov W gp s * al)).tdiv 2)
    rw [wrapS (ov W gp s * al) ⟨by omega, by omega⟩]
    show 0 + frm W gp al s = IntKind.i64.wrap (frm W gp al s)
    rw [wrapS _ ⟨by omega, by omega⟩]; omega
  · (repeat' first | exact trivial | exact rfl | refine And.intro ?_ ?_)
  intro ⟨k, hk⟩
  have z : 0 + k = k := Nat.zero_add k
  intro _; refine ⟨fun g => ?_, fun g => ?_⟩
  · have hkl := of_decide_eq_true (show decide ((k : Int) < (W.length : Int)) = true from g)
    have hkn : k < W.length := by omega
    have i1 : 0 ≤ (k : Int) ∧ (k : Int) < (W.length : Int) := by omega
    have i2 : 0 + (k : Int).toNat < W.length := by omega
    have j1 : 0 ≤ (k : Int) ∧ (k : Int) < (H.length : Int) := by omega
    have j2 : 0 + (k : Int).toNat < H.length := by omega
    have sb := sp_bd hS.2.1 k (by omega) (fun i hi => hS.2.2 i (by omega))
    have wb := hS.2.2 k (by omega)
    have wb1 : 0 ≤ at' W k ∧ at' W k ≤ 1000000 := wb
    intro _; refine ⟨i1, ?_⟩
    intro _; refine ⟨i2, ?_⟩
    intro _; refine ⟨j1, ?_⟩
    intro _; refine ⟨j2, ?_⟩
    intro _
    refine Or.inr ?_
    intro _; refine ⟨rfl, ?_⟩
    intro _; refine ⟨fun g3 => by simp at g3, fun _ => ?_⟩
    refine ⟨⟨(rtab_len k _).symm, show k + 1 ≤ 4611686018427387904 by omega, show (k + 1) * 72 ≤ 70368744177664 by omega⟩, ?_⟩
    intro _; refine ⟨by kernel_rfl, ?_⟩
    intro _; refine ⟨i1, ?_⟩
    intro _; refine ⟨i2, ?_⟩
    intro _; refine ⟨j1, ?_⟩
    intro _; refine ⟨j2, ?_⟩
    refine ⟨⟨k + 1, by omega⟩, by simp; omega, th [(2, some 4)] 3, rfl, rfl, rfl, rfl, rfl, rfl, ?_, ?_⟩
    · (repeat' first | exact trivial | exact rfl | refine And.intro ?_ ?_)
      · exact (wrap_nat k (by omega)).symm
      · show sp W gp (k + 1) + frm W gp al s = IntKind.i64.wrap (IntKind.i64.wrap (sp W gp k + frm W gp al s + at' W (0 + k)) + gp)
        rw [z, wrapS (sp W gp k + frm W gp al s + at' W k) ⟨by omega, by omega⟩, wrapS _ ⟨by omega, by omega⟩]
        show sp W gp k + (at' W k + gp) + frm W gp al s = _
        omega
      · show hm H (k + 1) = max (hm H k) (at' H (0 + k))
        rw [z]; rfl
    · (repeat' first | exact trivial | exact rfl | refine And.intro ?_ ?_)
      show rtab (k + 1) (bx W H gp (frm W gp al s)) = rtab k (bx W H gp (frm W gp al s)) ++ [[D.n 0, D.n (sp W gp k + frm W gp al s), D.n 0, D.n (at' W (0 + k)), D.n (at' H (0 + k)), D.b false, D.n 0]]
      rw [rtab_app, z]
      rfl
  have hkl := of_decide_eq_false (show decide ((k : Int) < (W.length : Int)) = false from g)
  have hkl : k = W.length := by omega
  subst hkl
  intro _
  refine ⟨[(2, some 2)], .tup [.grw 2 (pl W H gp al s).1.length, .int .i64 (pl W H gp al s).2.1, .int .i64 (pl W H gp al s).2.2], ⟨3, 2, [(2, .arr [.int .i64, .int .i64, .int .i64, .int .i64, .int .i64, .bool, .nils] .grow (.recs (pl W H gp al s).1))]⟩, rfl, rfl, rfl, rfl, ?_, ?_, ⟨rfl, rfl⟩⟩
  · rw [e2]
    (repeat' first | exact trivial | exact rfl | refine And.intro ?_ ?_)
    · exact rtab_len _ _
    · show hm H H.length = hm H W.length
      rw [hHW]
  · rw [e2]
    (repeat' first | exact trivial | exact rfl | refine And.intro ?_ ?_)
def fs' (W : List Int) (gp s : Int) (k j : Nat) : Int := if j < k then frm W gp j s else 0
def ls' (W : List Int) (gp s : Int) (k j : Nat) : Int := if j < k then s - frm W gp j s - (sm (at' W) W.length + gp * ((W.length : Int) - 1)) else 0
set_option maxHeartbeats 4000000 in
theorem law6 (W : List Int) (gp s : Int) (hW : List.length W ≤ 9223372036854775807) : SemF Try.prog 6 [.slc 0 1 0 W.length, .int .i64 gp, .int .i64 s] ⟨1, 1, [(0, .arr [.int .i64] .ro (.ints W))]⟩ (fun v _ => IsTrue v) := by
  refine enter tt_ok Try.func6 (nt := 139) (cd := body Try.f6) rfl rfl rfl rfl ?_
  intro _
  refine head_ok rfl Try.func15 (cd := body Try.f15) rfl ?_
  intro _
  refine call_pure [(0, some 1), (1, some 0)] (few1 W.length) rfl rfl rfl ?_ ?_ ?_
  · (repeat' first | exact trivial | exact rfl | refine And.intro ?_ ?_)
  · (repeat' first | exact trivial | exact rfl | refine And.intro ?_ ?_)
  intro v hv _
  subst hv
  intro _; refine ⟨fun g => ?_, fun g => ?_⟩
  · intro _
    show true = true
    rfl
  have g : (!decide (W.length ≤ 70)) = false := g
  rw [Bool.not_eq_false'] at g
  have hW7 := of_decide_eq_true g
  have hnT : (W.length : Int).toNat = W.length := by omega
  obtain ⟨Hz, hHz⟩ : ∃ Hz : List Int, Hz = List.replicate (W.length : Int).toNat 0 := ⟨_, rfl⟩
  have hHl : List.length Hz = W.length := by rw [hHz, List.length_replicate]; exact hnT
  have hH7 : List.length Hz ≤ 70 := by omega
  intro _; refine ⟨⟨by omega, by omega, by omega⟩, ?_⟩
  intro _; refine ⟨rfl, ?_⟩
  intro _
  refine loop2 tt_ok [26] [3, 4] 5 (fun k : { k : Nat // k ≤ 3 ∧ (1 ≤ k → SOk W gp ∧ (0 ≤ s ∧ s ≤ 1000000)) } => [(26, .int .i64 (k : Nat))]) (fun k => [(3, .cells [.int .i64 (fs' W gp s k 0), .int .i64 (fs' W gp s k 1), .int .i64 (fs' W gp s k 2)]), (4, .cells [.int .i64 (ls' W gp s k 0), .int .i64 (ls' W gp s k 1), .int .i64 (ls' W gp s k 2)])]) (fun k => 3 - k) ⟨0, by omega, by omega⟩ ?_
  intro _
  refine ⟨⟨th [] 5, rfl, rfl, rfl, rfl, rfl, rfl, ?_, ?_⟩, ?_⟩
  · (repeat' first | exact trivial | exact rfl | refine And.intro ?_ ?_)
  · (repeat' first | exact trivial | exact rfl | refine And.intro ?_ ?_)
  intro ⟨k, hk, hok⟩
  rcases (show k = 0 ∨ k = 1 ∨ k = 2 ∨ k = 3 by omega) with rfl | rfl | rfl | rfl
  · intro _; refine ⟨fun _ => ?_, fun g => by simp at g⟩
    intro _
    refine call_new [(0, some 0), (1, some 2)] (place_ok W Hz gp 0 s hW7 hH7) rfl rfl rfl rfl ?_ ?_ ?_
    · (repeat' first | exact trivial | exact rfl | refine And.intro ?_ ?_)
      exact hHz
    · (repeat' first | exact trivial | exact rfl | refine And.intro ?_ ?_)
      exact hHl.trans hnT.symm
    intro v h' hv
    obtain ⟨rfl, rfl⟩ := hv
    refine ⟨[(5, some 2)], 6, [(5, .arr [.int .i64, .int .i64, .int .i64, .int .i64, .int .i64, .bool, .nils] .grow (.recs (pl W Hz gp 0 s).1))], .tup [.grw 5 (pl W Hz gp 0 s).1.length, .int .i64 (pl W Hz gp 0 s).2.1, .int .i64 (pl W Hz gp 0 s).2.2], rfl, rfl, rfl, rfl, rfl, ?_, ?_, ?_⟩
    · (repeat' first | exact trivial | exact rfl | refine And.intro ?_ ?_)
    · (repeat' first | exact trivial | exact rfl | refine And.intro ?_ ?_)
    by_cases hP : POk W Hz gp 0 s
    rotate_left
    · have e1 : (pl W Hz gp 0 s) = ([], 0, 1) := by unfold pl; rw [if_neg hP]
      intro _; refine ⟨fun _ => ?_, fun g => ?_⟩
      · intro _
        show ((pl W Hz gp 0 s).2.2 == 1) = true
        rw [e1]; rfl
      · exfalso
        have g : ((pl W Hz gp 0 s).2.2 != 0) = false := g
        rw [e1] at g; simp at g
    have hS := hP.1
    have hs := hP.2.2.2.1
    have h64 := hS.1
    have e2 : (pl W Hz gp 0 s) = (rtab W.length (bx W Hz gp (frm W gp 0 s)), hm Hz Hz.length, 0) := by unfold pl; rw [if_pos hP]
    have eL : List.length (pl W Hz gp 0 s).1 = W.length := by rw [e2]; exact rtab_len _ _
    have row : ∀ j, j < W.length → (pl W Hz gp 0 s).1.getD j [] = bx W Hz gp (frm W gp 0 s) j := fun j hj => by rw [e2]; exact rtab_get _ hj
    have hf := frm_bd (al := 0) hS hs (by omega)
    have ho := ov_bd hS hs
    intro _; refine ⟨fun g => ?_, fun _ => ?_⟩
    · exfalso
      have g : ((pl W Hz gp 0 s).2.2 != 0) = true := g
      rw [e2] at g; simp at g
    intro _; refine ⟨fun g => ?_, fun _ => ?_⟩
    · exfalso
      have g : (((pl W Hz gp 0 s).1.length : Int) == 0) = true := g
      rw [eL] at g
      have g : (W.length : Int) = 0 := by simpa using g
      omega
    have eN : IntKind.i64.wrap (((pl W Hz gp 0 s).1.length : Int) - 1) = (W.length : Int) - 1 := by rw [eL]; exact wrapS _ ⟨by omega, by omega⟩
    have eNt : (IntKind.i64.wrap (((pl W Hz gp 0 s).1.length : Int) - 1)).toNat = W.length - 1 := by rw [eN]; omega
    intro _; refine ⟨show 0 ≤ IntKind.i64.wrap (((pl W Hz gp 0 s).1.length : Int) - 1) ∧ IntKind.i64.wrap (((pl W Hz gp 0 s).1.length : Int) - 1) < ((pl W Hz gp 0 s).1.length : Int) by rw [eN, eL]; omega, ?_⟩
    intro _; refine ⟨show (IntKind.i64.wrap (((pl W Hz gp 0 s).1.length : Int) - 1)).toNat < List.length (pl W Hz gp 0 s).1 by rw [eNt, eL]; omega, ?_⟩
    intro _; refine ⟨show 0 ≤ (0 : Int) ∧ (0 : Int) < ((pl W Hz gp 0 s).1.length : Int) by rw [eL]; omega, ?_⟩
    intro _; refine ⟨show 0 < List.length (pl W Hz gp 0 s).1 by rw [eL]; omega, ?_⟩
    intro _; refine ⟨by kernel_rfl, ?_⟩
    have vF : frm W gp 0 s = (((pl W Hz gp 0 s).1.getD 0 []).getD 1 (D.n 0)).int := by
      rw [row 0 (by omega)]
      show frm W gp 0 s = 0 + frm W gp 0 s
      omega
    have vL : s - frm W gp 0 s - (sm (at' W) W.length + gp * ((W.length : Int) - 1)) = IntKind.i64.wrap (IntKind.i64.wrap (s - (((pl W Hz gp 0 s).1.getD (IntKind.i64.wrap (((pl W Hz gp 0 s).1.length : Int) - 1)).toNat []).getD 1 (D.n 0)).int) - (((pl W Hz gp 0 s).1.getD (IntKind.i64.wrap (((pl W Hz gp 0 s).1.length : Int) - 1)).toNat []).getD 3 (D.n 0)).int) := by
      rw [eNt, row (W.length - 1) (by omega)]
      show _ = IntKind.i64.wrap (IntKind.i64.wrap (s - (sp W gp (W.length - 1) + frm W gp 0 s)) - at' W (W.length - 1))
      have spb := sp_bd hS.2.1 (W.length - 1) (by omega) (fun i hi => hS.2.2 i (by omega))
      have wb : 0 ≤ at' W (W.length - 1) ∧ at' W (W.length - 1) ≤ 1000000 := hS.2.2 (W.length - 1) (by omega)
      have h1 := sp_sum W gp (W.length - 1)
      have h2 : sm (at' W) W.length = sm (at' W) (W.length - 1) + at' W (W.length - 1) := by
        have : W.length = (W.length - 1) + 1 := by omega
        rw [this]; rfl
      have h3 : ((W.length - 1 : Nat) : Int) = (W.length : Int) - 1 := by omega
      rw [h3] at h1
      rw [wrapS (s - (sp W gp (W.length - 1) + frm W gp 0 s)) ⟨by omega, by omega⟩, wrapS _ ⟨by omega, by omega⟩, h2]
      omega
    refine ⟨⟨1, by omega, fun _ => ⟨hS, hs⟩⟩, by simp, th [] 5, rfl, rfl, rfl, rfl, rfl, rfl, ?_, ?_⟩
    · (repeat' first | exact trivial | exact rfl | refine And.intro ?_ ?_)
    · (repeat' first | exact trivial | exact rfl | refine And.intro ?_ ?_)
      · exact vF
      · exact vL
  · intro _; refine ⟨fun _ => ?_, fun g => by simp at g⟩
    intro _
    refine call_new [(0, some 0), (1, some 2)] (place_ok W Hz gp 1 s hW7 hH7) rfl rfl rfl rfl ?_ ?_ ?_
    · (repeat' first | exact trivial | exact rfl | refine And.intro ?_ ?_)
      exact hHz
    · (repeat' first | exact trivial | exact rfl | refine And.intro ?_ ?_)
      exact hHl.trans hnT.symm
    intro v h' hv
    obtain ⟨rfl, rfl⟩ := hv
    refine ⟨[(5, some 2)], 6, [(5, .arr [.int .i64, .int .i64, .int .i64, .int .i64, .int .i64, .bool, .nils] .grow (.recs (pl W Hz gp 1 s).1))], .tup [.grw 5 (pl W Hz gp 1 s).1.length, .int .i64 (pl W Hz gp 1 s).2.1, .int .i64 (pl W Hz gp 1 s).2.2], rfl, rfl, rfl, rfl, rfl, ?_, ?_, ?_⟩
    · (repeat' first | exact trivial | exact rfl | refine And.intro ?_ ?_)
    · (repeat' first | exact trivial | exact rfl | refine And.intro ?_ ?_)
    by_cases hP : POk W Hz gp 1 s
    rotate_left
    · have e1 : (pl W Hz gp 1 s) = ([], 0, 1) := by unfold pl; rw [if_neg hP]
      intro _; refine ⟨fun _ => ?_, fun g => ?_⟩
      · intro _
        show ((pl W Hz gp 1 s).2.2 == 1) = true
        rw [e1]; rfl
      · exfalso
        have g : ((pl W Hz gp 1 s).2.2 != 0) = false := g
        rw [e1] at g; simp at g
    have hS := hP.1
    have hs := hP.2.2.2.1
    have h64 := hS.1
    have e2 : (pl W Hz gp 1 s) = (rtab W.length (bx W Hz gp (frm W gp 1 s)), hm Hz Hz.length, 0) := by unfold pl; rw [if_pos hP]
    have eL : List.length (pl W Hz gp 1 s).1 = W.length := by rw [e2]; exact rtab_len _ _
    have row : ∀ j, j < W.length → (pl W Hz gp 1 s).1.getD j [] = bx W Hz gp (frm W gp 1 s) j := fun j hj => by rw [e2]; exact rtab_get _ hj
    have hf := frm_bd (al := 1) hS hs (by omega)
    have ho := ov_bd hS hs
    intro _; refine ⟨fun g => ?_, fun _ => ?_⟩
    · exfalso
      have g : ((pl W Hz gp 1 s).2.2 != 0) = true := g
      rw [e2] at g; simp at g
    intro _; refine ⟨fun g => ?_, fun _ => ?_⟩
    · exfalso
      have g : (((pl W Hz gp 1 s).1.length : Int) == 0) = true := g
      rw [eL] at g
      have g : (W.length : Int) = 0 := by simpa using g
      omega
    have eN : IntKind.i64.wrap (((pl W Hz gp 1 s).1.length : Int) - 1) = (W.length : Int) - 1 := by rw [eL]; exact wrapS _ ⟨by omega, by omega⟩
    have eNt : (IntKind.i64.wrap (((pl W Hz gp 1 s).1.length : Int) - 1)).toNat = W.length - 1 := by rw [eN]; omega
    intro _; refine ⟨show 0 ≤ IntKind.i64.wrap (((pl W Hz gp 1 s).1.length : Int) - 1) ∧ IntKind.i64.wrap (((pl W Hz gp 1 s).1.length : Int) - 1) < ((pl W Hz gp 1 s).1.length : Int) by rw [eN, eL]; omega, ?_⟩
    intro _; refine ⟨show (IntKind.i64.wrap (((pl W Hz gp 1 s).1.length : Int) - 1)).toNat < List.length (pl W Hz gp 1 s).1 by rw [eNt, eL]; omega, ?_⟩
    intro _; refine ⟨show 0 ≤ (0 : Int) ∧ (0 : Int) < ((pl W Hz gp 1 s).1.length : Int) by rw [eL]; omega, ?_⟩
    intro _; refine ⟨show 0 < List.length (pl W Hz gp 1 s).1 by rw [eL]; omega, ?_⟩
    intro _; refine ⟨by kernel_rfl, ?_⟩
    have vF : frm W gp 1 s = (((pl W Hz gp 1 s).1.getD 0 []).getD 1 (D.n 0)).int := by
      rw [row 0 (by omega)]
      show frm W gp 1 s = 0 + frm W gp 1 s
      omega
    have vL : s - frm W gp 1 s - (sm (at' W) W.length + gp * ((W.length : Int) - 1)) = IntKind.i64.wrap (IntKind.i64.wrap (s - (((pl W Hz gp 1 s).1.getD (IntKind.i64.wrap (((pl W Hz gp 1 s).1.length : Int) - 1)).toNat []).getD 1 (D.n 0)).int) - (((pl W Hz gp 1 s).1.getD (IntKind.i64.wrap (((pl W Hz gp 1 s).1.length : Int) - 1)).toNat []).getD 3 (D.n 0)).int) := by
      rw [eNt, row (W.length - 1) (by omega)]
      show _ = IntKind.i64.wrap (IntKind.i64.wrap (s - (sp W gp (W.length - 1) + frm W gp 1 s)) - at' W (W.length - 1))
      have spb := sp_bd hS.2.1 (W.length - 1) (by omega) (fun i hi => hS.2.2 i (by omega))
      have wb : 0 ≤ at' W (W.length - 1) ∧ at' W (W.length - 1) ≤ 1000000 := hS.2.2 (W.length - 1) (by omega)
      have h1 := sp_sum W gp (W.length - 1)
      have h2 : sm (at' W) W.length = sm (at' W) (W.length - 1) + at' W (W.length - 1) := by
        have : W.length = (W.length - 1) + 1 := by omega
        rw [this]; rfl
      have h3 : ((W.length - 1 : Nat) : Int) = (W.length : Int) - 1 := by omega
      rw [h3] at h1
      rw [wrapS (s - (sp W gp (W.length - 1) + frm W gp 1 s)) ⟨by omega, by omega⟩, wrapS _ ⟨by omega, by omega⟩, h2]
      omega
    refine ⟨⟨2, by omega, fun _ => ⟨hS, hs⟩⟩, by simp, th [] 5, rfl, rfl, rfl, rfl, rfl, rfl, ?_, ?_⟩
    · (repeat' first | exact trivial | exact rfl | refine And.intro ?_ ?_)
    · (repeat' first | exact trivial | exact rfl | refine And.intro ?_ ?_)
      · exact vF
      · exact vL
  · intro _; refine ⟨fun _ => ?_, fun g => by simp at g⟩
    intro _
    refine call_new [(0, some 0), (1, some 2)] (place_ok W Hz gp 2 s hW7 hH7) rfl rfl rfl rfl ?_ ?_ ?_
    · (repeat' first | exact trivial | exact rfl | refine And.intro ?_ ?_)
      exact hHz
    · (repeat' first | exact trivial | exact rfl | refine And.intro ?_ ?_)
      exact hHl.trans hnT.symm
    intro v h' hv
    obtain ⟨rfl, rfl⟩ := hv
    refine ⟨[(5, some 2)], 6, [(5, .arr [.int .i64, .int .i64, .int .i64, .int .i64, .int .i64, .bool, .nils] .grow (.recs (pl W Hz gp 2 s).1))], .tup [.grw 5 (pl W Hz gp 2 s).1.length, .int .i64 (pl W Hz gp 2 s).2.1, .int .i64 (pl W Hz gp 2 s).2.2], rfl, rfl, rfl, rfl, rfl, ?_, ?_, ?_⟩
    · (repeat' first | exact trivial | exact rfl | refine And.intro ?_ ?_)
    · (repeat' first | exact trivial | exact rfl | refine And.intro ?_ ?_)
    by_cases hP : POk W Hz gp 2 s
    rotate_left
    · have e1 : (pl W Hz gp 2 s) = ([], 0, 1) := by unfold pl; rw [if_neg hP]
      intro _; refine ⟨fun _ => ?_, fun g => ?_⟩
      · intro _
        show ((pl W Hz gp 2 s).2.2 == 1) = true
        rw [e1]; rfl
      · exfalso
        have g : ((pl W Hz gp 2 s).2.2 != 0) = false := g
        rw [e1] at g; simp at g
    have hS := hP.1
    have hs := hP.2.2.2.1
    have h64 := hS.1
    have e2 : (pl W Hz gp 2 s) = (rtab W.length (bx W Hz gp (frm W gp 2 s)), hm Hz Hz.length, 0) := by unfold pl; rw [if_pos hP]
    have eL : List.length (pl W Hz gp 2 s).1 = W.length := by rw [e2]; exact rtab_len _ _
    have row : ∀ j, j < W.length → (pl W Hz gp 2 s).1.getD j [] = bx W Hz gp (frm W gp 2 s) j := fun j hj => by rw [e2]; exact rtab_get _ hj
    have hf := frm_bd (al := 2) hS hs (by omega)
    have ho := ov_bd hS hs
    intro _; refine ⟨fun g => ?_, fun _ => ?_⟩
    · exfalso
      have g : ((pl W Hz gp 2 s).2.2 != 0) = true := g
      rw [e2] at g; simp at g
    intro _; refine ⟨fun g => ?_, fun _ => ?_⟩
    · exfalso
      have g : (((pl W Hz gp 2 s).1.length : Int) == 0) = true := g
      rw [eL] at g
      have g : (W.length : Int) = 0 := by simpa using g
      omega
    have eN : IntKind.i64.wrap (((pl W Hz gp 2 s).1.length : Int) - 1) = (W.length : Int) - 1 := by rw [eL]; exact wrapS _ ⟨by omega, by omega⟩
    have eNt : (IntKind.i64.wrap (((pl W Hz gp 2 s).1.length : Int) - 1)).toNat = W.length - 1 := by rw [eN]; omega
    intro _; refine ⟨show 0 ≤ IntKind.i64.wrap (((pl W Hz gp 2 s).1.length : Int) - 1) ∧ IntKind.i64.wrap (((pl W Hz gp 2 s).1.length : Int) - 1) < ((pl W Hz gp 2 s).1.length : Int) by rw [eN, eL]; omega, ?_⟩
    intro _; refine ⟨show (IntKind.i64.wrap (((pl W Hz gp 2 s).1.length : Int) - 1)).toNat < List.length (pl W Hz gp 2 s).1 by rw [eNt, eL]; omega, ?_⟩
    intro _; refine ⟨show 0 ≤ (0 : Int) ∧ (0 : Int) < ((pl W Hz gp 2 s).1.length : Int) by rw [eL]; omega, ?_⟩
    intro _; refine ⟨show 0 < List.length (pl W Hz gp 2 s).1 by rw [eL]; omega, ?_⟩
    intro _; refine ⟨by kernel_rfl, ?_⟩
    have vF : frm W gp 2 s = (((pl W Hz gp 2 s).1.getD 0 []).getD 1 (D.n 0)).int := by
      rw [row 0 (by omega)]
      show frm W gp 2 s = 0 + frm W gp 2 s
      omega
    have vL : s - frm W gp 2 s - (sm (at' W) W.length + gp * ((W.length : Int) - 1)) = IntKind.i64.wrap (IntKind.i64.wrap (s - (((pl W Hz gp 2 s).1.getD (IntKind.i64.wrap (((pl W Hz gp 2 s).1.length : Int) - 1)).toNat []).getD 1 (D.n 0)).int) - (((pl W Hz gp 2 s).1.getD (IntKind.i64.wrap (((pl W Hz gp 2 s).1.length : Int) - 1)).toNat []).getD 3 (D.n 0)).int) := by
      rw [eNt, row (W.length - 1) (by omega)]
      show _ = IntKind.i64.wrap (IntKind.i64.wrap (s - (sp W gp (W.length - 1) + frm W gp 2 s)) - at' W (W.length - 1))
      have spb := sp_bd hS.2.1 (W.length - 1) (by omega) (fun i hi => hS.2.2 i (by omega))
      have wb : 0 ≤ at' W (W.length - 1) ∧ at' W (W.length - 1) ≤ 1000000 := hS.2.2 (W.length - 1) (by omega)
      have h1 := sp_sum W gp (W.length - 1)
      have h2 : sm (at' W) W.length = sm (at' W) (W.length - 1) + at' W (W.length - 1) := by
        have : W.length = (W.length - 1) + 1 := by omega
        rw [this]; rfl
      have h3 : ((W.length - 1 : Nat) : Int) = (W.length : Int) - 1 := by omega
      rw [h3] at h1
      rw [wrapS (s - (sp W gp (W.length - 1) + frm W gp 2 s)) ⟨by omega, by omega⟩, wrapS _ ⟨by omega, by omega⟩, h2]
      omega
    refine ⟨⟨3, by omega, fun _ => ⟨hS, hs⟩⟩, by simp, th [] 5, rfl, rfl, rfl, rfl, rfl, rfl, ?_, ?_⟩
    · (repeat' first | exact trivial | exact rfl | refine And.intro ?_ ?_)
    · (repeat' first | exact trivial | exact rfl | refine And.intro ?_ ?_)
      · exact vF
      · exact vL
  intro _; refine ⟨fun g => by simp at g, fun _ => ?_⟩
  obtain ⟨hS, hs⟩ := hok (by omega)
  have h64 := hS.1
  have ho := ov_bd hS hs
  have f0 := frm_bd (al := 0) hS hs (by omega)
  have f1 := frm_bd (al := 1) hS hs (by omega)
  have f2 := frm_bd (al := 2) hS hs (by omega)
  have d0 : frm W gp 0 s = 0 := f0.2.2.1 rfl
  have d2 : frm W gp 2 s = ov W gp s := f2.2.2.2.2 rfl
  have d1 : frm W gp 1 s = ov W gp s / 2 := by rw [f1.2.2.2.1 rfl, Int.tdiv_eq_ediv_of_nonneg ho.1]
  have hsm : sm (at' W) W.length ≤ W.length * 1000000 := by
    have : ∀ k, k ≤ W.length → sm (at' W) k ≤ k * 1000000 := fun k hk => by
      induction k with
      | zero => simp [sm]
      | succ k ih =>
        have := ih (by omega)
        have h2 : 0 ≤ at' W k ∧ at' W k ≤ 1000000 := hS.2.2 k (by omega)
        simp only [sm]; omega
    exact this _ (Nat.le_refl _)
  have eOv : IntKind.i64.wrap (IntKind.i64.wrap (s - sm (at' W) W.length) - IntKind.i64.wrap (gp * IntKind.i64.wrap ((W.length : Int) - 1))) = s - sm (at' W) W.length - gp * ((W.length : Int) - 1) := by
    rw [wrapS ((W.length : Int) - 1) ⟨by omega, by omega⟩, wrapS (gp * ((W.length : Int) - 1)) ⟨by omega, by omega⟩, wrapS (s - sm (at' W) W.length) ⟨by omega, by omega⟩, wrapS _ ⟨by omega, by omega⟩]
  have dO : ov W gp s = max 0 (s - gp * ((W.length : Int) - 1) - sm (at' W) W.length) := rfl
  intro _
  refine call_pure [(0, some 0)] (total_ok W (by omega) (fun i hi => by have h2 : 0 ≤ at' W i ∧ at' W i ≤ 1000000 := hS.2.2 i hi; omega)) rfl rfl rfl ?_ ?_ ?_
  · (repeat' first | exact trivial | exact rfl | refine And.intro ?_ ?_)
  · (repeat' first | exact trivial | exact rfl | refine And.intro ?_ ?_)
  intro v hv _
  subst hv
  have E0 : fs' W gp s 3 0 = 0 := d0
  have E1 : fs' W gp s 3 1 = ov W gp s / 2 := d1
  have E2 : fs' W gp s 3 2 = ov W gp s := d2
  have M0 : ls' W gp s 3 0 = s - frm W gp 0 s - (sm (at' W) W.length + gp * ((W.length : Int) - 1)) := rfl
  have M1 : ls' W gp s 3 1 = s - frm W gp 1 s - (sm (at' W) W.length + gp * ((W.length : Int) - 1)) := rfl
  have M2 : ls' W gp s 3 2 = s - frm W gp 2 s - (sm (at' W) W.length + gp * ((W.length : Int) - 1)) := rfl
  rw [d0] at M0
  rw [d1] at M1
  rw [d2] at M2
  intro _; refine ⟨fun g => ?_, fun g => ?_⟩
  · have g : decide (IntKind.i64.wrap (IntKind.i64.wrap (s - sm (at' W) W.length) - IntKind.i64.wrap (gp * IntKind.i64.wrap ((W.length : Int) - 1))) ≤ 0) = true := g
    rw [eOv] at g
    have g := of_decide_eq_true g
    have hz : ov W gp s = 0 := by omega
    intro _
    show ((fs' W gp s 3 0 == 0) && ((fs' W gp s 3 1 == 0) && (fs' W gp s 3 2 == 0))) = true
    rw [E0, E1, E2, hz]; rfl
  have g : decide (IntKind.i64.wrap (IntKind.i64.wrap (s - sm (at' W) W.length) - IntKind.i64.wrap (gp * IntKind.i64.wrap ((W.length : Int) - 1))) ≤ 0) = false := g
  rw [eOv] at g
  have g := of_decide_eq_false g
  have hov : ov W gp s = s - sm (at' W) W.length - gp * ((W.length : Int) - 1) := by omega
  intro _; refine ⟨fun _ => ?_, fun g => ?_⟩
  rotate_left
  · exfalso
    have g : (fs' W gp s 3 0 == 0) = false := g
    rw [E0] at g; simp at g
  intro _; refine ⟨fun _ => ?_, fun g => ?_⟩
  rotate_left
  · exfalso
    have g : (ls' W gp s 3 0 == IntKind.i64.wrap (IntKind.i64.wrap (s - sm (at' W) W.length) - IntKind.i64.wrap (gp * IntKind.i64.wrap ((W.length : Int) - 1)))) = false := g
    rw [eOv, M0] at g
    have : s - 0 - (sm (at' W) W.length + gp * ((W.length : Int) - 1)) = s - sm (at' W) W.length - gp * ((W.length : Int) - 1) := by omega
    rw [this] at g; simp at g
  intro _; refine ⟨fun _ => ?_, fun g => ?_⟩
  rotate_left
  · exfalso
    have g : (fs' W gp s 3 2 == IntKind.i64.wrap (IntKind.i64.wrap (s - sm (at' W) W.length) - IntKind.i64.wrap (gp * IntKind.i64.wrap ((W.length : Int) - 1)))) = false := g
    rw [eOv, E2, hov] at g; simp at g
  intro _; refine ⟨fun _ => ?_, fun g => ?_⟩
  rotate_left
  · exfalso
    have g : (ls' W gp s 3 2 == 0) = false := g
    have : ls' W gp s 3 2 = 0 := by rw [M2]; omega
    rw [this] at g; simp at g
  intro _; refine ⟨fun _ => ?_, fun g => ?_⟩
  rotate_left
  · exfalso
    have g : (IntKind.i64.wrap (fs' W gp s 3 1 + ls' W gp s 3 1) == IntKind.i64.wrap (IntKind.i64.wrap (s - sm (at' W) W.length) - IntKind.i64.wrap (gp * IntKind.i64.wrap ((W.length : Int) - 1)))) = false := g
    have : fs' W gp s 3 1 + ls' W gp s 3 1 = s - sm (at' W) W.length - gp * ((W.length : Int) - 1) := by rw [E1, M1]; omega
    rw [eOv, this, wrapS _ ⟨by omega, by omega⟩] at g; simp at g
  have eD : IntKind.i64.wrap (ls' W gp s 3 1 - fs' W gp s 3 1) = ov W gp s - 2 * (ov W gp s / 2) := by
    have : ls' W gp s 3 1 - fs' W gp s 3 1 = ov W gp s - 2 * (ov W gp s / 2) := by rw [E1, M1]; omega
    rw [this]; exact wrapS _ ⟨by omega, by omega⟩
  intro _; refine ⟨fun _ => ?_, fun g => ?_⟩
  rotate_left
  · exfalso
    have g : decide (IntKind.i64.wrap (ls' W gp s 3 1 - fs' W gp s 3 1) ≥ 0) = false := g
    rw [eD] at g
    have g := of_decide_eq_false g
    omega
  intro _
  show decide (IntKind.i64.wrap (ls' W gp s 3 1 - fs' W gp s 3 1) ≤ 1) = true
  rw [eD]
  exact decide_eq_true (by omega)

theorem walk (w : World) (v_xw : Value) (s_xw : Src) (xw : List Int) (cap_xw : Nat) (hk_xw : s_xw.ks = [.int .i64]) (ha_xw : s_xw.ac = .ints xw) (hs_xw : s_xw.lies w) (hn_xw : s_xw.at_ = none → xw.length = 0) (hc_xw : xw.length ≤ cap_xw) (hv_xw : v_xw = s_xw.val cap_xw) (hm_xw : xw.length ≤ maxLen) (w_xw : ∀ n ∈ xw, (Lit.int .i64 n).wf = true) (gp : Int) (w_gp : (Lit.int .i64 gp).wf = true) (sz : Int) (w_sz : (Lit.int .i64 sz).wf = true) :
    Calls Try.prog 6 #[v_xw, .int .i64 gp, .int .i64 sz] w fun e w' => e = .returned (.bool true) ∧ Below w.heap.size w w' := by
  obtain ⟨at_xw, ks_xw, ac_xw⟩ := s_xw
  simp only [] at hk_xw ha_xw
  subst hk_xw ha_xw
  have h_xw : xw.length ≤ 9223372036854775807 := by unfold maxLen at hm_xw; omega
  have b_gp := w_gp
  simp [Lit.wf, IntKind.min, IntKind.max, IntKind.signed, IntKind.bits] at b_gp
  have b_sz := w_sz
  simp [Lit.wf, IntKind.min, IntKind.max, IntKind.signed, IntKind.bits] at b_sz
  exact top_run (by kernel_rfl) (by kernel_rfl) (T := [15]) (fun f hf w => by
      rcases List.mem_cons.1 hf with e | e
      · subst e; exact head w
      · exact (List.not_mem_nil e).elim) (l := [⟨at_xw, [.int .i64], .ints xw⟩]) (args := [.slc 0 1 0 xw.length, .int .i64 gp, .int .i64 sz]) («as» := [Src.av 0 cap_xw ⟨at_xw, [.int .i64], .ints xw⟩, .int .i64 gp, .int .i64 sz]) (cargs := [v_xw, .int .i64 gp, .int .i64 sz]) w
    (fun s h => by
      rcases List.mem_cons.1 h with e | h
      · subst e; exact hs_xw
      · exact (List.not_mem_nil h).elim)
    (Cvs.cons (src_cv (s := ⟨at_xw, [.int .i64], .ints xw⟩) rfl 1 hc_xw hn_xw) (Cvs.cons mk_int (Cvs.cons mk_int Cvs.nil)))
    (by simp only [Go.Vm.convs, Go.Vm.conv]; rw [src_conv (j := 0) (s := ⟨at_xw, [.int .i64], .ints xw⟩) rfl, hv_xw])
    (law6 xw gp sz h_xw)

set_option maxRecDepth 100000 in
theorem lifted (os : Os) (started : os.Started) (H : Type) (enc : TypeId × Value → H) :
    ReturnsInHanded {} Try.checked os 6 .any (Rows.rowAlignsSpec.pre6 enc Try.prog Try.f6 Rows.rowAlignsRow.domain false) (Rows.rowAlignsSpec.post enc Try.prog Try.f6 false true false false) := by
  refine returnsInHanded_of_change (C := Try.checked) own started (by kernel_rfl) Try.func6
    (ChangeSpec.witness6 (enc := enc) (C := Try.checked) false ⟨#[], #[.slice none 0 0, .int .i64 0, .int .i64 0], []⟩ 8 (by kernel_rfl) (by kernel_rfl) (by kernel_rfl) (by kernel_rfl)) ?_
  intro W base args ds gs before hval0 hW hcnd _
  have hval : ∀ (j : Nat) t v, Try.f6.params[j]? = some t → args[j]? = some v → Value.okWide Try.prog W .any base t v := hval0
  have hW' := hW
  obtain ⟨p, q, hA0, hV, rfl, hfz, hnd⟩ := hW
  have hA : DataW.TrodAll enc Try.prog W 0 (fun _ => true) true Try.f6.params.toList args.toList ds p := hA0
  rw [Try.params6] at hA hval
  obtain ⟨v0, vs0, d0, ds0, p0, q0, hargs, rfl, rfl, h0, r0⟩ := trodAll_cons hA
  obtain ⟨v1, vs1, d1, ds1, p1, q1, rfl, rfl, rfl, h1, r1⟩ := trodAll_cons r0
  obtain ⟨v2, vs2, d2, ds2, p2, q2, rfl, rfl, rfl, h2, r2⟩ := trodAll_cons r1
  obtain ⟨rfl, rfl, rfl⟩ := trodAll_nil r2
  obtain rfl : args = #[v0, v1, v2] := by cases args; simp_all
  obtain ⟨rfl, rfl⟩ := trodVars_none hV
  obtain ⟨s_xw, xw, cap_xw, hk_xw, ha_xw, hs_xw, hn_xw, hc_xw, hv_xw, hm_xw, w_xw⟩ := Go.Vm2.open_list Try.underlying22 Try.underlying3 (by kernel_rfl) (hval 0 22 v0 rfl rfl) h0
  have hlt0 : ∀ x ∈ p0, x.block < W.heap.size := fun x hx => by simpa using hW'.lt x (by simp [hx])
  obtain ⟨gp, rfl, rfl, rfl, w_gp⟩ := open_int Try.underlying3 (hval 1 3 v1 rfl rfl) h1
  obtain ⟨sz, rfl, rfl, rfl, w_sz⟩ := open_int Try.underlying3 (hval 2 3 v2 rfl rfl) h2
  clear hA0 hval0
  refine (walk W v0 s_xw xw cap_xw hk_xw ha_xw hs_xw hn_xw hc_xw hv_xw hm_xw w_xw gp w_gp sz w_sz).mono fun e W' ⟨he, hg⟩ => ?_
  subst he
  exact ⟨_, rfl, _, _, _, [], _, [], hW', trodAll_cons_mk (shut_bool Try.underlying4 _) trodAll_mk0, (trodAll_cons_mk (Below.trod laidOut (by kernel_rfl) (of_decide_eq_true (by kernel_rfl)) h0 hg hlt0) (trodAll_cons_mk (shut_int Try.underlying3 w_gp) (trodAll_cons_mk (shut_int Try.underlying3 w_sz) trodAll_mk0))), rfl, hg.frame _, fun h => by cases h⟩

theorem over : Rows.rowAlignsRow.holds Try.pinned (OpenSpec.ofChange Rows.rowAlignsSpec) :=
  OpenClaim.holds_of_wide 6 Try.f6 rfl rfl rfl rfl rfl rfl rfl ⟨rfl, rfl, rfl, rfl, rfl⟩ rfl rfl rfl rfl rfl (by kernel_rfl) Try.func6 (by kernel_rfl)
    (of_decide_eq_true (by kernel_rfl)) (by unfold Func.isWrapper; first | (rw [if_pos (by decide +kernel)]; kernel_rfl) | (rw [if_neg (by decide +kernel)]; exact ⟨rfl, rfl⟩))
    (fun os started H enc _ => lifted os started H enc)

/-- the statement -/
theorem proved : Rows.RowAlignsSaid :=
  over
#print axioms proved
end Go.Proofs.Ytojkgickckchgaa.rowAligns
