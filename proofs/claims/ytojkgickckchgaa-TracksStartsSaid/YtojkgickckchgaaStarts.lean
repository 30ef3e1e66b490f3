/-
  TracksStarts: whatever the arguments, the law returns true, and its arguments read as before. No conditions.
-/
import Derived.Test.YtojkgickckchgaaRows
import Derived.Test.YtojkgickckchgaaVwOpen2
import Derived.Test.YtojkgickckchgaaVwRules6
import Derived.Test.YtojkgickckchgaaVmSym
import Derived.WalkKit
import Derived.ProofKit
import Derived.OpenShut
import Derived.Carry
namespace Go.Proofs.Ytojkgickckchgaa.tracksStarts
open Go.ChangeShapes Go.WideShapes Go.ChangeAt Go.RowKit
open Go.Vm (Facts Val Sound)
open Go.Vm2
set_option linter.unusedVariables false
set_option linter.unusedSectionVars false

theorem own : ownKnob Try.prog.godebug = none := by kernel_rfl
theorem laidOut : laidOutB Try.prog = true := by kernel_rfl
def ts : List Nat := [58, 22, 25, 3, 29, 38, 39, 5, 41, 42, 44, 53, 4, 61, 60, 36, 91, 66, 69]
def tt : Go.Vm2.TT := [
  (58, ⟨(.slice 22 1 24 [.nils]), false, 1, .nils, true⟩),
  (22, ⟨(.slice 3 1 8 [.int .i64]), false, 1, .nils, true⟩),
  (25, ⟨(.int .i64), false, 1, .int .i64 (0), true⟩),
  (3, ⟨(.int .i64), false, 1, .int .i64 (0), true⟩),
  (29, ⟨(.slice 38 7 72 [.int .i64, .int .i64, .int .i64, .int .i64, .int .i64, .bool, .nils]), false, 1, .nils, true⟩),
  (38, ⟨(.struct [⟨0, 1, false⟩, ⟨1, 1, false⟩, ⟨2, 1, false⟩, ⟨3, 1, false⟩, ⟨4, 1, false⟩, ⟨5, 1, false⟩, ⟨6, 1, false⟩]), true, 7, .agg [.int .i64 (0), .int .i64 (0), .int .i64 (0), .int .i64 (0), .int .i64 (0), .bool false, .nils], false⟩),
  (39, ⟨(.array 3 3 1), true, 3, .agg [.int .i64 (0), .int .i64 (0), .int .i64 (0)], true⟩),
  (5, ⟨(.int .u8), false, 1, .int .u8 (0), true⟩),
  (41, ⟨(.int .u32), false, 1, .int .u32 (0), true⟩),
  (42, ⟨(.int .u16), false, 1, .int .u16 (0), true⟩),
  (44, ⟨(.slice 53 3 24 [.int .i64, .int .i64, .int .i64]), false, 1, .nils, true⟩),
  (53, ⟨(.struct [⟨0, 1, false⟩, ⟨1, 1, false⟩, ⟨2, 1, false⟩]), true, 3, .agg [.int .i64 (0), .int .i64 (0), .int .i64 (0)], true⟩),
  (4, ⟨.bool, false, 1, .bool false, true⟩),
  (61, ⟨(.array 3 60 1), true, 3, .agg [.nilf, .nilf, .nilf], true⟩),
  (60, ⟨.other, false, 1, .nilf, true⟩),
  (36, ⟨(.slice 91 5 48 [.str, .int .i64, .int .i64, .int .i64, .int .i64]), false, 1, .nils, true⟩),
  (91, ⟨(.struct [⟨0, 1, false⟩, ⟨1, 1, false⟩, ⟨2, 1, false⟩, ⟨3, 1, false⟩, ⟨4, 1, false⟩]), true, 5, .agg [.str [], .int .i64 (0), .int .i64 (0), .int .i64 (0), .int .i64 (0)], true⟩),
  (66, ⟨(.map .i64 4), false, 1, .nilm, true⟩),
  (69, ⟨(.slice 4 1 1 [.bool]), false, 1, .nils, true⟩)]
theorem tt_mk : mkTT Try.prog ts = some tt := by kernel_rfl
theorem head (w : World) : Calls Try.prog 24 #[] w fun e w' => e = .returned (.bool true) ∧ Below w.heap.size w w' :=
  Go.Vm.head_run (by kernel_rfl) (by kernel_rfl) (n := 1000000) (by kernel_rfl) w
instance facts : Facts := ⟨[], [24], false⟩
instance val : Val := ⟨fun _ => 0⟩
instance sound : Sound := ⟨fun f hf => (List.not_mem_nil hf).elim⟩
theorem tt_ok : TTok Try.prog tt := ttok_mk tt_mk
def body (f : Func) : Code := match f.body with | some c => c | none => .skip
set_option maxRecDepth 100000
theorem wrap_nat (k : Nat) (h : k < 9223372036854775807) : IntKind.i64.wrap ((k : Int) + 1) = ((k + 1 : Nat) : Int) := by
  rw [IntKind.wrap_i64]; omega
theorem wrapS (n : Int) (h : -9000000000000000000 ≤ n ∧ n ≤ 9000000000000000000) : IntKind.i64.wrap n = n := by rw [IntKind.wrap_i64]; omega
abbrev Rows := List (List D)
abbrev K3 : List CK := [.int .i64, .int .i64, .int .i64]
abbrev K1 : List CK := [.int .i64]
theorem len_test (n : Int) (h : H) (K : V → H → Prop) (hK : K (.test (decide (0 ≤ n ∧ n ≤ 1000000))) h) : SemF Try.prog 41 [.int .i64 n] h K := by
  refine SemF.test ?_
  refine enter tt_ok Try.func41 (nt := 9) (cd := body Try.f41) rfl rfl rfl rfl ?_
  intro _; refine ⟨fun g => ?_, fun g => ?_⟩
  · have g := of_decide_eq_true (show decide (n ≥ 0) = true from g)
    intro _
    refine ⟨_, .inr rfl, ?_⟩
    have : decide (0 ≤ n ∧ n ≤ 1000000) = decide (n ≤ 1000000) := by
      by_cases e : n ≤ 1000000
      · rw [decide_eq_true e, decide_eq_true (show 0 ≤ n ∧ n ≤ 1000000 from ⟨by omega, e⟩)]
      · rw [decide_eq_false e, decide_eq_false (fun m => e m.2)]
    rw [← this]; exact hK
  · have g := of_decide_eq_false (show decide (n ≥ 0) = false from g)
    intro _
    refine ⟨false, .inl rfl, ?_⟩
    have : decide (0 ≤ n ∧ n ≤ 1000000) = false := decide_eq_false (fun m => by have := m.1; omega)
    rw [← this]; exact hK
theorem gap_test (n : Int) (h : H) (K : V → H → Prop) (hK : K (.test (decide (0 ≤ n ∧ n ≤ 100000))) h) : SemF Try.prog 42 [.int .i64 n] h K := by
  refine SemF.test ?_
  refine enter tt_ok Try.func42 (nt := 9) (cd := body Try.f42) rfl rfl rfl rfl ?_
  intro _; refine ⟨fun g => ?_, fun g => ?_⟩
  · have g := of_decide_eq_true (show decide (n ≥ 0) = true from g)
    intro _
    refine ⟨_, .inr rfl, ?_⟩
    have : decide (0 ≤ n ∧ n ≤ 100000) = decide (n ≤ 100000) := by
      by_cases e : n ≤ 100000
      · rw [decide_eq_true e, decide_eq_true (show 0 ≤ n ∧ n ≤ 100000 from ⟨by omega, e⟩)]
      · rw [decide_eq_false e, decide_eq_false (fun m => e m.2)]
    rw [← this]; exact hK
  · have g := of_decide_eq_false (show decide (n ≥ 0) = false from g)
    intro _
    refine ⟨false, .inl rfl, ?_⟩
    have : decide (0 ≤ n ∧ n ≤ 100000) = false := decide_eq_false (fun m => by have := m.1; omega)
    rw [← this]; exact hK
theorem in_test (n lo hi : Int) (h : H) (K : V → H → Prop) (hK : K (.test (decide (lo ≤ n ∧ n ≤ hi))) h) : SemF Try.prog 44 [.int .i64 n, .int .i64 lo, .int .i64 hi] h K := by
  refine SemF.test ?_
  refine enter tt_ok Try.func44 (nt := 15) (cd := body Try.f44) rfl rfl rfl rfl ?_
  intro _; refine ⟨fun g => ?_, fun g => ?_⟩
  · have g := of_decide_eq_true (show decide (lo ≤ n) = true from g)
    intro _
    refine ⟨_, .inr rfl, ?_⟩
    have : decide (lo ≤ n ∧ n ≤ hi) = decide (n ≤ hi) := by
      by_cases e : n ≤ hi
      · rw [decide_eq_true e, decide_eq_true (show lo ≤ n ∧ n ≤ hi from ⟨by omega, e⟩)]
      · rw [decide_eq_false e, decide_eq_false (fun m => e m.2)]
    rw [← this]; exact hK
  · have g := of_decide_eq_false (show decide (lo ≤ n) = false from g)
    intro _
    refine ⟨false, .inl rfl, ?_⟩
    have : decide (lo ≤ n ∧ n ≤ hi) = false := decide_eq_false (fun m => by have := m.1; omega)
    rw [← this]; exact hK
def ba (l : Rows) (i : Nat) : Int := ((l.getD i []).getD 0 (D.n 0)).int
def gr (l : Rows) (i : Nat) : Int := ((l.getD i []).getD 1 (D.n 0)).int
def mx (l : Rows) (i : Nat) : Int := ((l.getD i []).getD 2 (D.n 0)).int
def Tk (l : Rows) (i : Nat) : Prop := (0 ≤ ba l i ∧ ba l i ≤ 1000000) ∧ (0 ≤ gr l i ∧ gr l i ≤ 1000) ∧ (mx l i ≠ 0 → ba l i ≤ mx l i ∧ mx l i ≤ 1000000)
def Vd (l : Rows) : Prop := (1 ≤ l.length ∧ l.length ≤ 64) ∧ ∀ i, i < l.length → Tk l i
instance decTk (l : Rows) (i : Nat) : Decidable (Tk l i) := inferInstanceAs (Decidable (_ ∧ _))
instance decVd (l : Rows) : Decidable (Vd l) := inferInstanceAs (Decidable (_ ∧ _))
abbrev VIdx (l : Rows) := { k : Nat // k ≤ l.length ∧ ∀ i, i < k → Tk l i }
theorem vidx_succ {l : Rows} {k : Nat} (hm : ∀ i, i < k → Tk l i) (h : Tk l k) : ∀ i, i < k + 1 → Tk l i := fun i hi => by
  by_cases e : i = k
  · subst e; exact h
  · exact hm i (by omega)
theorem vend {l : Rows} (hm : ∀ i, i < l.length → Tk l i) : decide (Vd l) = decide (1 ≤ l.length ∧ l.length ≤ 64) := by
  by_cases e : 1 ≤ l.length ∧ l.length ≤ 64
  · rw [decide_eq_true e, decide_eq_true (show Vd l from ⟨e, hm⟩)]
  · rw [decide_eq_false e, decide_eq_false (fun h : Vd l => e h.1)]
abbrev Hl (l : Rows) : H := ⟨1, 1, [(0, .arr [.int .i64, .int .i64, .int .i64] .rd (.recs l))]⟩
theorem valid_ok (l : Rows) (hl : l.length ≤ 9223372036854775807) : SemF Try.prog 27 [.slc 0 3 0 l.length] ⟨1, 1, [(0, .arr [.int .i64, .int .i64, .int .i64] .rd (.recs l))]⟩ (fun v _ => v = .test (decide (Vd l)) ∧ nameless v = true) := by
  refine SemF.test ?_
  refine enter tt_ok Try.func27 (nt := 51) (cd := body Try.f27) rfl rfl rfl rfl ?_
  intro _
  refine loop2 tt_ok [7] [] 1 (fun k : VIdx l => [(7, .int .i64 (k : Nat))]) (fun _ => []) (fun k => l.length - k) ⟨0, by omega, fun i h => by omega⟩ ?_
  intro _
  refine ⟨⟨th [] 1, rfl, rfl, rfl, rfl, rfl, rfl, ?_, ?_⟩, ?_⟩
  · (repeat' first | exact trivial | exact rfl | refine And.intro ?_ ?_)
  · (repeat' first | exact trivial | exact rfl | refine And.intro ?_ ?_)
  intro ⟨k, hk, hmk⟩
  have hF : ¬ Tk l k → k < l.length → (∃ b, (V.bool true = .bool b ∨ V.bool true = .test b) → False) → True := fun _ _ _ => trivial
  have z : 0 + k = k := Nat.zero_add k
  intro _; refine ⟨fun g => ?_, fun g => ?_⟩
  · have hkl := of_decide_eq_true (show decide ((k : Int) < (l.length : Int)) = true from g)
    have bad : ¬ Tk l k → decide (Vd l) = false := fun h => decide_eq_false (fun hv => h (hv.2 k (by omega)))
    intro _; refine ⟨show 0 ≤ (k : Int) ∧ (k : Int) < (l.length : Int) by omega, ?_⟩
    intro _; refine ⟨show 0 + (k : Int).toNat < l.length by omega, ?_⟩
    intro _
    refine len_test _ _ _ ?_
    intro _; refine ⟨fun g => ?_, fun g => ?_⟩
    · have g : (!decide (0 ≤ ba l (0 + k) ∧ ba l (0 + k) ≤ 1000000)) = true := g
      rw [z, Bool.not_eq_true'] at g
      have g := of_decide_eq_false g
      intro _
      exact ⟨false, .inl rfl, by rw [bad (fun h => g h.1)], rfl⟩
    have g : (!decide (0 ≤ ba l (0 + k) ∧ ba l (0 + k) ≤ 1000000)) = false := g
    rw [z, Bool.not_eq_false'] at g
    have g1 := of_decide_eq_true g
    intro _; refine ⟨fun g => ?_, fun g => ?_⟩
    · have g : decide (gr l (0 + k) < 0) = true := g
      rw [z] at g
      have g := of_decide_eq_true g
      intro _
      exact ⟨false, .inl rfl, by rw [bad (fun h => by have := h.2.1.1; omega)], rfl⟩
    have g : decide (gr l (0 + k) < 0) = false := g
    rw [z] at g
    have g2 := of_decide_eq_false g
    intro _; refine ⟨fun g => ?_, fun g => ?_⟩
    · have g : decide (gr l (0 + k) > 1000) = true := g
      rw [z] at g
      have g := of_decide_eq_true g
      intro _
      exact ⟨false, .inl rfl, by rw [bad (fun h => by have := h.2.1.2; omega)], rfl⟩
    have g : decide (gr l (0 + k) > 1000) = false := g
    rw [z] at g
    have g3 := of_decide_eq_false g
    intro _; refine ⟨fun g => ?_, fun g => ?_⟩
    · have g : (mx l (0 + k) != 0) = true := g
      rw [z] at g
      have g4 : mx l k ≠ 0 := by simpa using g
      intro _; refine ⟨fun g => ?_, fun g => ?_⟩
      · have g : decide (mx l (0 + k) < ba l (0 + k)) = true := g
        rw [z] at g
        have g := of_decide_eq_true g
        intro _
        exact ⟨false, .inl rfl, by rw [bad (fun h => by have := h.2.2 g4; omega)], rfl⟩
      have g : decide (mx l (0 + k) < ba l (0 + k)) = false := g
      rw [z] at g
      have g5 := of_decide_eq_false g
      intro _; refine ⟨fun g => ?_, fun g => ?_⟩
      · have g : decide (mx l (0 + k) > 1000000) = true := g
        rw [z] at g
        have g := of_decide_eq_true g
        intro _
        exact ⟨false, .inl rfl, by rw [bad (fun h => by have := h.2.2 g4; omega)], rfl⟩
      have g : decide (mx l (0 + k) > 1000000) = false := g
      rw [z] at g
      have g6 := of_decide_eq_false g
      refine ⟨⟨k + 1, by omega, vidx_succ hmk ⟨g1, ⟨by omega, by omega⟩, fun _ => ⟨by omega, by omega⟩⟩⟩, by simp; omega, th [] 1, rfl, rfl, rfl, rfl, rfl, rfl, ?_, ?_⟩
      · (repeat' first | exact trivial | exact rfl | refine And.intro ?_ ?_)
        exact (wrap_nat k (by omega)).symm
      · (repeat' first | exact trivial | exact rfl | refine And.intro ?_ ?_)
    have g : (mx l (0 + k) != 0) = false := g
    rw [z] at g
    have g4 : mx l k = 0 := by simpa using g
    refine ⟨⟨k + 1, by omega, vidx_succ hmk ⟨g1, ⟨by omega, by omega⟩, fun h => absurd g4 h⟩⟩, by simp; omega, th [] 1, rfl, rfl, rfl, rfl, rfl, rfl, ?_, ?_⟩
    · (repeat' first | exact trivial | exact rfl | refine And.intro ?_ ?_)
      exact (wrap_nat k (by omega)).symm
    · (repeat' first | exact trivial | exact rfl | refine And.intro ?_ ?_)
  · have hkl := of_decide_eq_false (show decide ((k : Int) < (l.length : Int)) = false from g)
    have hkl : k = l.length := by omega
    subst hkl
    intro _; refine ⟨fun g => ?_, fun g => ?_⟩
    · have g := of_decide_eq_true (show decide ((l.length : Int) ≥ 1) = true from g)
      intro _
      refine ⟨_, .inr rfl, ?_, rfl⟩
      rw [vend hmk]
      by_cases e : l.length ≤ 64
      · rw [decide_eq_true (show (l.length : Int) ≤ 64 by omega), decide_eq_true (show 1 ≤ l.length ∧ l.length ≤ 64 by omega)]
      · rw [decide_eq_false (show ¬ (l.length : Int) ≤ 64 by omega), decide_eq_false (show ¬ (1 ≤ l.length ∧ l.length ≤ 64) by omega)]
    · have g := of_decide_eq_false (show decide ((l.length : Int) ≥ 1) = false from g)
      intro _
      exact ⟨false, .inl rfl, by rw [vend hmk, decide_eq_false (show ¬ (1 ≤ l.length ∧ l.length ≤ 64) by omega)], rfl⟩
theorem rvalid_ok (l : Rows) (hl : l.length ≤ 9223372036854775807) : SemF Try.prog 28 [.slc 0 3 0 l.length] ⟨1, 1, [(0, .arr [.int .i64, .int .i64, .int .i64] .rd (.recs l))]⟩ (fun v _ => v = .test (decide (Vd l)) ∧ nameless v = true) := by
  refine SemF.test ?_
  refine enter tt_ok Try.func28 (nt := 62) (cd := body Try.f28) rfl rfl rfl rfl ?_
  intro _
  refine loop2 tt_ok [3] [] 1 (fun k : VIdx l => [(3, .int .i64 (k : Nat))]) (fun _ => []) (fun k => l.length - k) ⟨0, by omega, fun i h => by omega⟩ ?_
  intro _
  refine ⟨⟨th [] 1, rfl, rfl, rfl, rfl, rfl, rfl, ?_, ?_⟩, ?_⟩
  · (repeat' first | exact trivial | exact rfl | refine And.intro ?_ ?_)
  · (repeat' first | exact trivial | exact rfl | refine And.intro ?_ ?_)
  intro ⟨k, hk, hmk⟩
  have z : 0 + k = k := Nat.zero_add k
  intro _; refine ⟨fun g => ?_, fun g => ?_⟩
  · have hkl := of_decide_eq_true (show decide ((k : Int) < (l.length : Int)) = true from g)
    have bad : ¬ Tk l k → decide (Vd l) = false := fun h => decide_eq_false (fun hv => h (hv.2 k (by omega)))
    have i1 : 0 ≤ (k : Int) ∧ (k : Int) < (l.length : Int) := by omega
    have i2 : 0 + (k : Int).toNat < l.length := by omega
    intro _; refine ⟨i1, ?_⟩
    intro _; refine ⟨i2, ?_⟩
    intro _
    refine in_test _ _ _ _ _ ?_
    intro _; refine ⟨i1, ?_⟩
    intro _; refine ⟨i2, ?_⟩
    intro _
    refine in_test _ _ _ _ _ ?_
    intro _; refine ⟨i1, ?_⟩
    intro _; refine ⟨i2, ?_⟩
    intro _; refine ⟨i1, ?_⟩
    intro _; refine ⟨i2, ?_⟩
    intro _
    refine Or.inl ?_
    intro _
    refine in_test _ _ _ _ _ ?_
    intro _; refine ⟨by kernel_rfl, ?_⟩
    intro _; refine ⟨fun g => ?_, fun g => ?_⟩
    · have g : (!decide (0 ≤ ba l (0 + k) ∧ ba l (0 + k) ≤ 1000000)) = true := g
      rw [z, Bool.not_eq_true'] at g
      have g := of_decide_eq_false g
      intro _
      exact ⟨false, .inl rfl, by rw [bad (fun h => g h.1)], rfl⟩
    have g : (!decide (0 ≤ ba l (0 + k) ∧ ba l (0 + k) ≤ 1000000)) = false := g
    rw [z, Bool.not_eq_false'] at g
    have g1 := of_decide_eq_true g
    intro _; refine ⟨fun g => ?_, fun g => ?_⟩
    · have g : (!decide (0 ≤ gr l (0 + k) ∧ gr l (0 + k) ≤ 1000)) = true := g
      rw [z, Bool.not_eq_true'] at g
      have g := of_decide_eq_false g
      intro _
      exact ⟨false, .inl rfl, by rw [bad (fun h => g h.2.1)], rfl⟩
    have g : (!decide (0 ≤ gr l (0 + k) ∧ gr l (0 + k) ≤ 1000)) = false := g
    rw [z, Bool.not_eq_false'] at g
    have g2 := of_decide_eq_true g
    intro _; refine ⟨i1, ?_⟩
    intro _; refine ⟨i2, ?_⟩
    intro _; refine ⟨fun g => ?_, fun g => ?_⟩
    · have g : (mx l (0 + k) != 0) = true := g
      rw [z] at g
      have g4 : mx l k ≠ 0 := by simpa using g
      intro _; refine ⟨fun g => ?_, fun g => ?_⟩
      · have g : (!decide (ba l (0 + k) ≤ mx l (0 + k) ∧ mx l (0 + k) ≤ 1000000)) = true := g
        rw [z, Bool.not_eq_true'] at g
        have g := of_decide_eq_false g
        intro _
        exact ⟨false, .inl rfl, by rw [bad (fun h => g (h.2.2 g4))], rfl⟩
      have g : (!decide (ba l (0 + k) ≤ mx l (0 + k) ∧ mx l (0 + k) ≤ 1000000)) = false := g
      rw [z, Bool.not_eq_false'] at g
      have g5 := of_decide_eq_true g
      refine ⟨⟨k + 1, by omega, vidx_succ hmk ⟨g1, g2, fun _ => g5⟩⟩, by simp; omega, th [] 1, rfl, rfl, rfl, rfl, rfl, rfl, ?_, ?_⟩
      · (repeat' first | exact trivial | exact rfl | refine And.intro ?_ ?_)
        exact (wrap_nat k (by omega)).symm
      · (repeat' first | exact trivial | exact rfl | refine And.intro ?_ ?_)
    have g : (mx l (0 + k) != 0) = false := g
    rw [z] at g
    have g4 : mx l k = 0 := by simpa using g
    refine ⟨⟨k + 1, by omega, vidx_succ hmk ⟨g1, g2, fun h => absurd g4 h⟩⟩, by simp; omega, th [] 1, rfl, rfl, rfl, rfl, rfl, rfl, ?_, ?_⟩
    · (repeat' first | exact trivial | exact rfl | refine And.intro ?_ ?_)
      exact (wrap_nat k (by omega)).symm
    · (repeat' first | exact trivial | exact rfl | refine And.intro ?_ ?_)
  · have hkl := of_decide_eq_false (show decide ((k : Int) < (l.length : Int)) = false from g)
    have hkl : k = l.length := by omega
    subst hkl
    intro _; refine ⟨fun g => ?_, fun g => ?_⟩
    · have g := of_decide_eq_true (show decide ((l.length : Int) ≥ 1) = true from g)
      intro _
      refine ⟨_, .inr rfl, ?_, rfl⟩
      rw [vend hmk]
      by_cases e : l.length ≤ 64
      · rw [decide_eq_true (show (l.length : Int) ≤ 64 by omega), decide_eq_true (show 1 ≤ l.length ∧ l.length ≤ 64 by omega)]
      · rw [decide_eq_false (show ¬ (l.length : Int) ≤ 64 by omega), decide_eq_false (show ¬ (1 ≤ l.length ∧ l.length ≤ 64) by omega)]
    · have g := of_decide_eq_false (show decide ((l.length : Int) ≥ 1) = false from g)
      intro _
      exact ⟨false, .inl rfl, by rw [vend hmk, decide_eq_false (show ¬ (1 ≤ l.length ∧ l.length ≤ 64) by omega)], rfl⟩
/-! lists by their places -/
def tab (n : Nat) (f : Nat → Int) : List Int := (List.range n).map f
theorem tab_len (n : Nat) (f : Nat → Int) : List.length (tab n f) = n := by simp [tab]
theorem tab_get {n : Nat} (f : Nat → Int) {i : Nat} (h : i < n) : (tab n f).getD i 0 = f i := by
  unfold tab; rw [List.getD_eq_getElem?_getD, List.getElem?_map, List.getElem?_range h]; rfl
theorem tab_ext {n : Nat} {f g : Nat → Int} (h : ∀ i, i < n → f i = g i) : tab n f = tab n g := by
  unfold tab; exact List.map_congr_left (fun i hi => h i (List.mem_range.1 hi))
theorem tab_set {n : Nat} (f : Nat → Int) (k : Nat) (v : Int) : (tab n f).set k v = tab n (fun i => if i = k then v else f i) := by
  unfold tab
  refine List.ext_getElem (by simp) (fun i h1 h2 => ?_)
  rw [List.getElem_set]
  simp only [List.getElem_map, List.getElem_range]
  by_cases e : k = i
  · rw [if_pos e, if_pos e.symm]
  · rw [if_neg e, if_neg (fun h => e h.symm)]
theorem tab_zero (n : Nat) : List.replicate n 0 = tab n (fun _ => 0) := by
  unfold tab
  refine List.ext_getElem (by simp) (fun i h1 h2 => ?_)
  simp
theorem tab_app (k : Nat) (f : Nat → Int) : tab (k + 1) f = tab k f ++ [f k] := by
  unfold tab; rw [List.range_succ, List.map_append]; rfl
theorem tab_of (l : List Int) : l = tab l.length (fun i => l.getD i 0) := by
  unfold tab
  refine List.ext_getElem (by simp) (fun i h1 h2 => ?_)
  simp [List.getD_eq_getElem?_getD, h1]
/-- SameInts -/
theorem same_all (a b : List Int) (ha : a.length ≤ 9223372036854775807) (hb : b.length ≤ 9223372036854775807) : SemF Try.prog 29 [.slc 0 1 0 a.length, .slc 1 1 0 b.length] ⟨2, 2, [(0, .arr [.int .i64] .rd (.ints a)), (1, .arr [.int .i64] .rd (.ints b))]⟩
    (fun v _ => v = .bool (decide (a = b)) ∧ nameless v = true) := by
  refine enter tt_ok Try.func29 (nt := 26) (cd := body Try.f29) rfl rfl rfl rfl ?_
  intro _; refine ⟨fun g => ?_, fun g => ?_⟩
  · intro _
    refine ⟨?_, rfl⟩
    have g : ((a.length : Int) != (b.length : Int)) = true := g
    have : a ≠ b := fun e => by subst e; simp at g
    rw [decide_eq_false this]
  have hab : a.length = b.length := by
    have g : ((a.length : Int) != (b.length : Int)) = false := g
    have g2 := g; simp at g2; omega
  intro _
  refine loop2 tt_ok [5] [] 2 (fun k : { k : Nat // k ≤ a.length ∧ ∀ i, i < k → a.getD i 0 = b.getD i 0 } => [(5, .int .i64 k)]) (fun _ => []) (fun k => a.length - k) ⟨0, by omega, fun i h => by omega⟩ ?_
  intro _
  refine ⟨⟨th [] 2, rfl, rfl, rfl, rfl, rfl, rfl, ?_, ?_⟩, ?_⟩
  · (repeat' first | exact trivial | exact rfl | refine And.intro ?_ ?_)
  · (repeat' first | exact trivial | exact rfl | refine And.intro ?_ ?_)
  · intro ⟨k, hk, hmk⟩
    intro _; refine ⟨fun g => ?_, fun g => ?_⟩
    · have hkl : k < a.length := by simp at g; omega
      have e0 : 0 + ((k : Int)).toNat = k := by omega
      intro _; refine ⟨by simp; omega, ?_⟩
      intro _; refine ⟨by simp [AC.len]; omega, ?_⟩
      intro _; refine ⟨by simp; omega, ?_⟩
      intro _; refine ⟨by simp [AC.len]; omega, ?_⟩
      intro _; refine ⟨by kernel_rfl, ?_⟩
      intro _; refine ⟨fun g2 => ?_, fun g2 => ?_⟩
      · have g2 : (a.getD (0 + ((k : Int)).toNat) 0 != b.getD (0 + ((k : Int)).toNat) 0) = true := g2
        rw [e0] at g2
        intro _
        refine ⟨?_, rfl⟩
        have : a ≠ b := fun e => by subst e; simp at g2
        rw [decide_eq_false this]
      · have g2 : (a.getD (0 + ((k : Int)).toNat) 0 != b.getD (0 + ((k : Int)).toNat) 0) = false := g2
        rw [e0] at g2
        refine ⟨⟨k + 1, by omega, fun i hi => ?_⟩, by simp; omega, th [] 2, rfl, rfl, rfl, rfl, rfl, rfl, ?_, ?_⟩
        · by_cases e : i = k
          · subst e; simpa using g2
          · exact hmk i (by omega)
        · (repeat' first | exact trivial | exact rfl | refine And.intro ?_ ?_)
          exact (wrap_nat k (by omega)).symm
        · (repeat' first | exact trivial | exact rfl | refine And.intro ?_ ?_)
    · have hkl : k = a.length := by simp at g; omega
      subst hkl
      intro _
      refine ⟨?_, rfl⟩
      have : a = b := by
        refine List.ext_getElem hab (fun i h1 h2 => ?_)
        have := hmk i h1
        rw [List.getD_eq_getElem?_getD, List.getD_eq_getElem?_getD, List.getElem?_eq_getElem h1, List.getElem?_eq_getElem h2] at this
        exact this
      rw [decide_eq_true this]
/-! where tracks begin -/
def Wd (w : List Int) (i : Nat) : Prop := 0 ≤ w.getD i 0 ∧ w.getD i 0 ≤ 1000000
instance decWd (w : List Int) (i : Nat) : Decidable (Wd w i) := inferInstanceAs (Decidable (_ ∧ _))
def sp (w : List Int) (g : Int) : Nat → Int
  | 0 => 0
  | k + 1 => sp w g k + (w.getD k 0 + g)
def SOk (w : List Int) (g : Int) : Prop := (1 ≤ w.length ∧ w.length ≤ 64) ∧ (0 ≤ g ∧ g ≤ 100000) ∧ ∀ i, i < w.length → Wd w i
instance decSOk (w : List Int) (g : Int) : Decidable (SOk w g) := inferInstanceAs (Decidable (_ ∧ _))
def sr (w : List Int) (g : Int) : List Int × Int := if SOk w g then (tab w.length (sp w g), 0) else ([], 1)
theorem sp_bd {w : List Int} {g : Int} (hg : 0 ≤ g ∧ g ≤ 100000) : ∀ k, k ≤ 64 → (∀ i, i < k → Wd w i) → 0 ≤ sp w g k ∧ sp w g k ≤ k * 1100000
  | 0, _, _ => ⟨Int.le_refl _, by simp [sp]⟩
  | k + 1, hk, h => by
    obtain ⟨a, b⟩ := sp_bd hg k (by omega) (fun i hi => h i (by omega))
    obtain ⟨c, d⟩ := h k (by omega)
    simp only [sp]
    omega
def SQ (w : List Int) (g : Int) : V → H → Prop := fun v h' => v = .tup [.grw 1 (sr w g).1.length, .int .i64 (sr w g).2] ∧ h' = ⟨2, 1, [(1, .arr [.int .i64] .own (.ints (sr w g).1))]⟩
def RSQ (w : List Int) (g : Int) : V → H → Prop := fun v h' => v = .tup [.grw 1 (sr w g).1.length, .int .i64 (sr w g).2] ∧ h' = ⟨2, 1, [(1, .arr [.int .i64] .grow (.ints (sr w g).1))]⟩
abbrev WIdx (w : List Int) := { k : Nat // k ≤ w.length ∧ ∀ i, i < k → Wd w i }
theorem widx_succ {w : List Int} {k : Nat} (hm : ∀ i, i < k → Wd w i) (h : Wd w k) : ∀ i, i < k + 1 → Wd w i := fun i hi => by
  by_cases e : i = k
  · subst e; exact h
  · exact hm i (by omega)
theorem starts_ok (w : List Int) (gap : Int) (hl : w.length ≤ 9223372036854775807) : SemF Try.prog 30 [.slc 0 1 0 w.length, .int .i64 gap] ⟨1, 1, [(0, .arr [.int .i64] .rd (.ints w))]⟩ (SQ w gap) := by
  refine SemF.ret ?_
  refine enter tt_ok Try.func30 (nt := 47) (cd := body Try.f30) rfl rfl rfl rfl ?_
  have bad : ¬ SOk w gap → ∀ nx hx, Nat.ble 1 nx = true → Ret 1 (SQ w gap) (.tup [.nils, .int .i64 1]) ⟨nx, 1, hx⟩ := fun he nx hx hn => by
    have e1 : sr w gap = ([], 1) := by unfold sr; rw [if_neg he]
    refine ⟨[(1, none)], .tup [.grw 1 0, .int .i64 1], ⟨2, 1, [(1, .arr [.int .i64] .own (.ints []))]⟩, rfl, rfl, rfl, rfl, ?_, ?_, ?_, ?_⟩
    · (repeat' first | exact trivial | exact rfl | refine And.intro ?_ ?_)
    · (repeat' first | exact trivial | exact rfl | refine And.intro ?_ ?_)
    · rw [e1]; rfl
    · rw [e1]
  intro _; refine ⟨fun g => ?_, fun g => ?_⟩
  · have g := of_decide_eq_true (show decide ((w.length : Int) < 1) = true from g)
    intro _
    exact bad (fun h => by have := h.1; omega) _ _ rfl
  have g1 := of_decide_eq_false (show decide ((w.length : Int) < 1) = false from g)
  intro _; refine ⟨fun g => ?_, fun g => ?_⟩
  · have g := of_decide_eq_true (show decide ((w.length : Int) > 64) = true from g)
    intro _
    exact bad (fun h => by have := h.1; omega) _ _ rfl
  have g2 := of_decide_eq_false (show decide ((w.length : Int) > 64) = false from g)
  intro _
  refine gap_test _ _ _ ?_
  intro _; refine ⟨fun g => ?_, fun g => ?_⟩
  · have g : (!decide (0 ≤ gap ∧ gap ≤ 100000)) = true := g
    rw [Bool.not_eq_true'] at g
    have g := of_decide_eq_false g
    intro _
    exact bad (fun h => g h.2.1) _ _ rfl
  have g : (!decide (0 ≤ gap ∧ gap ≤ 100000)) = false := g
  rw [Bool.not_eq_false'] at g
  have g3 := of_decide_eq_true g
  intro _; refine ⟨⟨by omega, by omega, by omega⟩, ?_⟩
  intro _; refine ⟨rfl, ?_⟩
  intro _
  refine loop2 tt_ok [28, 7] [1] 2 (fun k : WIdx w => [(28, .int .i64 (k : Nat)), (7, .int .i64 (sp w gap k))]) (fun k => [(1, .arr [.int .i64] .own (.ints (tab w.length (fun i => if i < (k : Nat) then sp w gap i else 0))))]) (fun k => w.length - k) ⟨0, by omega, fun i h => by omega⟩ ?_
  intro _
  refine ⟨⟨th [] 2, rfl, rfl, rfl, rfl, rfl, rfl, ?_, ?_⟩, ?_⟩
  · (repeat' first | exact trivial | exact rfl | refine And.intro ?_ ?_)
  · (repeat' first | exact trivial | exact rfl | refine And.intro ?_ ?_)
    have : (w.length : Int).toNat = w.length := by omega
    show tab w.length _ = List.replicate (w.length : Int).toNat 0
    rw [this, tab_zero]
    exact tab_ext (fun i _ => if_neg (by simp))
  intro ⟨k, hk, hmk⟩
  have z : 0 + k = k := Nat.zero_add k
  intro _; refine ⟨fun g => ?_, fun g => ?_⟩
  · have hkl := of_decide_eq_true (show decide ((k : Int) < (w.length : Int)) = true from g)
    have i1 : 0 ≤ (k : Int) ∧ (k : Int) < (w.length : Int) := by omega
    intro _; refine ⟨i1, ?_⟩
    intro _; refine ⟨show 0 + (k : Int).toNat < w.length by omega, ?_⟩
    intro _
    refine len_test _ _ _ ?_
    intro _; refine ⟨fun g => ?_, fun g => ?_⟩
    · have g : (!decide (0 ≤ w.getD (0 + k) 0 ∧ w.getD (0 + k) 0 ≤ 1000000)) = true := g
      rw [z, Bool.not_eq_true'] at g
      have g := of_decide_eq_false g
      intro _
      exact bad (fun h => g (h.2.2 k (by omega))) _ _ rfl
    have g : (!decide (0 ≤ w.getD (0 + k) 0 ∧ w.getD (0 + k) 0 ≤ 1000000)) = false := g
    rw [z, Bool.not_eq_false'] at g
    have g4 := of_decide_eq_true g
    intro _; refine ⟨show 0 ≤ (k : Int) ∧ (k : Int) < ((w.length : Int).toNat : Int) by omega, ?_⟩
    intro _; refine ⟨show (k : Int).toNat < List.length (tab w.length _) by rw [tab_len]; omega, ?_⟩
    obtain ⟨b1, b2⟩ := sp_bd g3 k (by omega) hmk
    refine ⟨⟨k + 1, by omega, widx_succ hmk g4⟩, by simp; omega, th [] 2, rfl, rfl, rfl, rfl, rfl, rfl, ?_, ?_⟩
    · (repeat' first | exact trivial | exact rfl | refine And.intro ?_ ?_)
      · exact (wrap_nat k (by omega)).symm
      · show sp w gap k + (w.getD k 0 + gap) = IntKind.i64.wrap (sp w gap k + IntKind.i64.wrap (w.getD (0 + k) 0 + gap))
        rw [z, wrapS (w.getD k 0 + gap) ⟨by omega, by omega⟩, wrapS _ ⟨by omega, by omega⟩]
    · (repeat' first | exact trivial | exact rfl | refine And.intro ?_ ?_)
      show tab w.length _ = (tab w.length _).set k (sp w gap k)
      rw [tab_set]
      refine tab_ext (fun i _ => ?_)
      by_cases e : i = k
      · subst e; simp
      · by_cases e2 : i < k
        · rw [if_pos (show i < k + 1 by omega), if_neg e, if_pos e2]
        · rw [if_neg (show ¬ i < k + 1 by omega), if_neg e, if_neg e2]
  · have hkl := of_decide_eq_false (show decide ((k : Int) < (w.length : Int)) = false from g)
    have hkl : k = w.length := by omega
    subst hkl
    have e1 : sr w gap = (tab w.length (sp w gap), 0) := by unfold sr; rw [if_pos ⟨by omega, g3, hmk⟩]
    intro _
    refine ⟨[(1, some 1)], .tup [.grw 1 (sr w gap).1.length, .int .i64 (sr w gap).2], ⟨2, 1, [(1, .arr [.int .i64] .own (.ints (sr w gap).1))]⟩, rfl, rfl, rfl, rfl, ?_, ?_, ⟨rfl, rfl⟩⟩
    · rw [e1]
      (repeat' first | exact trivial | exact rfl | refine And.intro ?_ ?_)
      show List.length (tab w.length _) = (w.length : Int).toNat
      rw [tab_len]; omega
    · rw [e1]
      (repeat' first | exact trivial | exact rfl | refine And.intro ?_ ?_)
      exact tab_ext (fun i hi => (if_pos hi).symm)
theorem rstarts_ok (w : List Int) (gap : Int) (hl : w.length ≤ 9223372036854775807) : SemF Try.prog 31 [.slc 0 1 0 w.length, .int .i64 gap] ⟨1, 1, [(0, .arr [.int .i64] .rd (.ints w))]⟩ (RSQ w gap) := by
  refine SemF.ret ?_
  refine enter tt_ok Try.func31 (nt := 51) (cd := body Try.f31) rfl rfl rfl rfl ?_
  have bad : ¬ SOk w gap → ∀ nx hx, Nat.ble 1 nx = true → Ret 1 (RSQ w gap) (.tup [.nils, .int .i64 1]) ⟨nx, 1, hx⟩ := fun he nx hx hn => by
    have e1 : sr w gap = ([], 1) := by unfold sr; rw [if_neg he]
    refine ⟨[(1, none)], .tup [.grw 1 0, .int .i64 1], ⟨2, 1, [(1, .arr [.int .i64] .grow (.ints []))]⟩, rfl, rfl, rfl, rfl, ?_, ?_, ?_, ?_⟩
    · (repeat' first | exact trivial | exact rfl | refine And.intro ?_ ?_)
    · (repeat' first | exact trivial | exact rfl | refine And.intro ?_ ?_)
    · rw [e1]; rfl
    · rw [e1]
  intro _
  refine in_test _ _ _ _ _ ?_
  intro _; refine ⟨fun g => ?_, fun g => ?_⟩
  · have g : (!decide (0 ≤ gap ∧ gap ≤ 100000)) = true := g
    rw [Bool.not_eq_true'] at g
    have g := of_decide_eq_false g
    intro _
    exact bad (fun h => g h.2.1) _ _ rfl
  have g : (!decide (0 ≤ gap ∧ gap ≤ 100000)) = false := g
  rw [Bool.not_eq_false'] at g
  have g3 := of_decide_eq_true g
  intro _; refine ⟨fun g => ?_, fun g => ?_⟩
  · have g := of_decide_eq_true (show decide ((w.length : Int) < 1) = true from g)
    intro _
    exact bad (fun h => by have := h.1; omega) _ _ rfl
  have g1 := of_decide_eq_false (show decide ((w.length : Int) < 1) = false from g)
  intro _; refine ⟨fun g => ?_, fun g => ?_⟩
  · have g := of_decide_eq_true (show decide ((w.length : Int) > 64) = true from g)
    intro _
    exact bad (fun h => by have := h.1; omega) _ _ rfl
  have g2 := of_decide_eq_false (show decide ((w.length : Int) > 64) = false from g)
  intro _
  refine loop2 tt_ok [9, 8, 7] [1] 2 (fun k : WIdx w => [(9, .int .i64 (k : Nat)), (8, .int .i64 (sp w gap k)), (7, .grw 1 (k : Nat))]) (fun k => [(1, .arr [.int .i64] .grow (.ints (tab (k : Nat) (sp w gap))))]) (fun k => w.length - k) ⟨0, by omega, fun i h => by omega⟩ ?_
  intro _
  refine ⟨⟨th [(1, none)] 2, rfl, rfl, rfl, rfl, rfl, rfl, ?_, ?_⟩, ?_⟩
  · (repeat' first | exact trivial | exact rfl | refine And.intro ?_ ?_)
  · (repeat' first | exact trivial | exact rfl | refine And.intro ?_ ?_)
  intro ⟨k, hk, hmk⟩
  have z : 0 + k = k := Nat.zero_add k
  intro _; refine ⟨fun g => ?_, fun g => ?_⟩
  · have hkl := of_decide_eq_true (show decide ((k : Int) < (w.length : Int)) = true from g)
    have i1 : 0 ≤ (k : Int) ∧ (k : Int) < (w.length : Int) := by omega
    have i2 : 0 + (k : Int).toNat < w.length := by omega
    intro _; refine ⟨i1, ?_⟩
    intro _; refine ⟨i2, ?_⟩
    intro _
    refine in_test _ _ _ _ _ ?_
    intro _; refine ⟨fun g => ?_, fun g => ?_⟩
    · have g : (!decide (0 ≤ w.getD (0 + k) 0 ∧ w.getD (0 + k) 0 ≤ 1000000)) = true := g
      rw [z, Bool.not_eq_true'] at g
      have g := of_decide_eq_false g
      intro _
      exact bad (fun h => g (h.2.2 k (by omega))) _ _ rfl
    have g : (!decide (0 ≤ w.getD (0 + k) 0 ∧ w.getD (0 + k) 0 ≤ 1000000)) = false := g
    rw [z, Bool.not_eq_false'] at g
    have g4 := of_decide_eq_true g
    intro _; refine ⟨rfl, ?_⟩
    intro _; refine ⟨fun g3 => by simp at g3, fun _ => ?_⟩
    refine ⟨⟨(tab_len k _).symm, show k + 1 ≤ 4611686018427387904 by omega, show (k + 1) * 8 ≤ 70368744177664 by omega⟩, ?_⟩
    intro _; refine ⟨i1, ?_⟩
    intro _; refine ⟨i2, ?_⟩
    obtain ⟨b1, b2⟩ := sp_bd g3 k (by omega) hmk
    have hww := g4
    refine ⟨⟨k + 1, by omega, widx_succ hmk g4⟩, by simp; omega, th [(1, some 3)] 2, rfl, rfl, rfl, rfl, rfl, rfl, ?_, ?_⟩
    · (repeat' first | exact trivial | exact rfl | refine And.intro ?_ ?_)
      · exact (wrap_nat k (by omega)).symm
      · show sp w gap k + (w.getD k 0 + gap) = IntKind.i64.wrap (IntKind.i64.wrap (sp w gap k + w.getD (0 + k) 0) + gap)
        rw [z, wrapS (sp w gap k + w.getD k 0) ⟨by omega, by omega⟩, wrapS _ ⟨by omega, by omega⟩]
        omega
    · (repeat' first | exact trivial | exact rfl | refine And.intro ?_ ?_)
      exact tab_app k _
  · have hkl := of_decide_eq_false (show decide ((k : Int) < (w.length : Int)) = false from g)
    have hkl : k = w.length := by omega
    subst hkl
    have e1 : sr w gap = (tab w.length (sp w gap), 0) := by unfold sr; rw [if_pos ⟨by omega, g3, hmk⟩]
    intro _
    refine ⟨[(1, some 1)], .tup [.grw 1 (sr w gap).1.length, .int .i64 (sr w gap).2], ⟨2, 1, [(1, .arr [.int .i64] .grow (.ints (sr w gap).1))]⟩, rfl, rfl, rfl, rfl, ?_, ?_, ⟨rfl, rfl⟩⟩
    · rw [e1]
      (repeat' first | exact trivial | exact rfl | refine And.intro ?_ ?_)
      exact tab_len _ _
    · rw [e1]
      (repeat' first | exact trivial | exact rfl | refine And.intro ?_ ?_)
theorem law13 (w : List Int) (gap : Int) (hl : List.length w ≤ 9223372036854775807) : SemF Try.prog 13 [.slc 0 1 0 w.length, .int .i64 gap] ⟨1, 1, [(0, .arr [.int .i64] .ro (.ints w))]⟩ (fun v _ => IsTrue v) := by
  refine enter tt_ok Try.func13 (nt := 69) (cd := body Try.f13) rfl rfl rfl rfl ?_
  intro _
  refine head_ok rfl Try.func24 (cd := body Try.f24) rfl ?_
  intro _
  refine call_new [(0, some 0)] (starts_ok w gap hl) rfl rfl rfl rfl ?_ ?_ ?_
  · (repeat' first | exact trivial | exact rfl | refine And.intro ?_ ?_)
  · (repeat' first | exact trivial | exact rfl | refine And.intro ?_ ?_)
  intro v h' hv
  obtain ⟨rfl, rfl⟩ := hv
  refine ⟨[(1, some 1)], 2, [(1, .arr [.int .i64] .own (.ints (sr w gap).1))], .tup [.grw 1 (sr w gap).1.length, .int .i64 (sr w gap).2], rfl, rfl, rfl, rfl, rfl, ?_, ?_, ?_⟩
  · (repeat' first | exact trivial | exact rfl | refine And.intro ?_ ?_)
  · (repeat' first | exact trivial | exact rfl | refine And.intro ?_ ?_)
  by_cases hv : SOk w gap
  rotate_left
  · have e1 : sr w gap = ([], 1) := by unfold sr; rw [if_neg hv]
    intro _; refine ⟨fun g => ?_, fun g => ?_⟩
    · intro _; refine ⟨fun _ => ?_, fun g => ?_⟩
      · intro _
        show ((sr w gap).2 == 1) = true
        rw [e1]; rfl
      · exfalso
        have g : (((sr w gap).1.length : Int) == 0) = false := g
        rw [e1] at g; simp at g
    · exfalso
      have g : ((sr w gap).2 != 0) = false := g
      rw [e1] at g; simp at g
  have e1 : sr w gap = (tab w.length (sp w gap), 0) := by unfold sr; rw [if_pos hv]
  have eL : List.length (sr w gap).1 = w.length := by rw [e1]; exact tab_len _ _
  obtain ⟨hn, hg, hw⟩ := hv
  intro _; refine ⟨fun g => ?_, fun _ => ?_⟩
  · exfalso
    have g : ((sr w gap).2 != 0) = true := g
    rw [e1] at g; simp at g
  intro _; refine ⟨fun g => ?_, fun _ => ?_⟩
  · exfalso
    have g : (((sr w gap).1.length : Int) != (w.length : Int)) = true := g
    rw [eL] at g; simp at g
  intro _; refine ⟨fun g => ?_, fun _ => ?_⟩
  · exfalso
    have g : (((sr w gap).1.length : Int) == 0) = true := g
    rw [eL] at g
    have g : (w.length : Int) = 0 := by simpa using g
    omega
  intro _; refine ⟨show 0 ≤ (0 : Int) ∧ (0 : Int) < ((sr w gap).1.length : Int) by rw [eL]; omega, ?_⟩
  intro _; refine ⟨show 0 < List.length (sr w gap).1 by rw [eL]; omega, ?_⟩
  intro _; refine ⟨fun g => ?_, fun _ => ?_⟩
  · exfalso
    have g : ((sr w gap).1.getD 0 0 != 0) = true := g
    rw [e1] at g
    have g : ((tab w.length (sp w gap)).getD 0 0 != 0) = true := g
    rw [tab_get _ (by omega)] at g
    simp [sp] at g
  intro _
  refine loop2 tt_ok [8] [] 2 (fun k : Fin w.length => [(8, .int .i64 ((k : Nat) + 1))]) (fun _ => []) (fun k => w.length - k) ⟨0, by omega⟩ ?_
  intro _
  refine ⟨⟨th [] 2, rfl, rfl, rfl, rfl, rfl, rfl, ?_, ?_⟩, ?_⟩
  · (repeat' first | exact trivial | exact rfl | refine And.intro ?_ ?_)
  · (repeat' first | exact trivial | exact rfl | refine And.intro ?_ ?_)
  intro ⟨k, hk⟩
  intro _; refine ⟨fun g => ?_, fun g => ?_⟩
  · have g : decide ((k : Int) + 1 < ((sr w gap).1.length : Int)) = true := g
    rw [eL] at g
    have g := of_decide_eq_true g
    have eW : (IntKind.i64.wrap ((k : Int) + 1 - 1)) = k := by rw [IntKind.wrap_i64]; omega
    have eT : (IntKind.i64.wrap ((k : Int) + 1 - 1)).toNat = k := by rw [eW]; omega
    have eT1 : ((k : Int) + 1).toNat = k + 1 := by omega
    intro _; refine ⟨show 0 ≤ (k : Int) + 1 ∧ (k : Int) + 1 < ((sr w gap).1.length : Int) by rw [eL]; omega, ?_⟩
    intro _; refine ⟨show ((k : Int) + 1).toNat < List.length (sr w gap).1 by rw [eL]; omega, ?_⟩
    intro _; refine ⟨show 0 ≤ IntKind.i64.wrap ((k : Int) + 1 - 1) ∧ IntKind.i64.wrap ((k : Int) + 1 - 1) < ((sr w gap).1.length : Int) by rw [eL, eW]; omega, ?_⟩
    intro _; refine ⟨show (IntKind.i64.wrap ((k : Int) + 1 - 1)).toNat < List.length (sr w gap).1 by rw [eL, eT]; omega, ?_⟩
    intro _; refine ⟨show 0 ≤ IntKind.i64.wrap ((k : Int) + 1 - 1) ∧ IntKind.i64.wrap ((k : Int) + 1 - 1) < (w.length : Int) by rw [eW]; omega, ?_⟩
    intro _; refine ⟨show 0 + (IntKind.i64.wrap ((k : Int) + 1 - 1)).toNat < w.length by rw [eT]; omega, ?_⟩
    intro _; refine ⟨by kernel_rfl, ?_⟩
    intro _; refine ⟨fun g2 => ?_, fun _ => ?_⟩
    · exfalso
      have g2 : (IntKind.i64.wrap ((sr w gap).1.getD ((k : Int) + 1).toNat 0 - (sr w gap).1.getD (IntKind.i64.wrap ((k : Int) + 1 - 1)).toNat 0) != IntKind.i64.wrap (w.getD (0 + (IntKind.i64.wrap ((k : Int) + 1 - 1)).toNat) 0 + gap)) = true := g2
      rw [eT, eT1, Nat.zero_add, e1] at g2
      have g2 : (IntKind.i64.wrap ((tab w.length (sp w gap)).getD (k + 1) 0 - (tab w.length (sp w gap)).getD k 0) != IntKind.i64.wrap (w.getD k 0 + gap)) = true := g2
      rw [tab_get _ (by omega), tab_get _ (by omega)] at g2
      have : sp w gap (k + 1) - sp w gap k = w.getD k 0 + gap := by simp only [sp]; omega
      rw [this] at g2
      simp at g2
    refine ⟨⟨k + 1, by omega⟩, by simp; omega, th [] 2, rfl, rfl, rfl, rfl, rfl, rfl, ?_, ?_⟩
    · (repeat' first | exact trivial | exact rfl | refine And.intro ?_ ?_)
      show ((k + 1 : Nat) : Int) + 1 = IntKind.i64.wrap ((k : Int) + 1 + 1)
      rw [wrapS _ ⟨by omega, by omega⟩]; omega
    · (repeat' first | exact trivial | exact rfl | refine And.intro ?_ ?_)
  · intro _
    show true = true
    rfl

theorem walk (w : World) (v_xs : Value) (s_xs : Src) (xs : List Int) (cap_xs : Nat) (hk_xs : s_xs.ks = [.int .i64]) (ha_xs : s_xs.ac = .ints xs) (hs_xs : s_xs.lies w) (hn_xs : s_xs.at_ = none → xs.length = 0) (hc_xs : xs.length ≤ cap_xs) (hv_xs : v_xs = s_xs.val cap_xs) (hm_xs : xs.length ≤ maxLen) (w_xs : ∀ n ∈ xs, (Lit.int .i64 n).wf = true) (gap : Int) (w_gap : (Lit.int .i64 gap).wf = true) :
    Calls Try.prog 13 #[v_xs, .int .i64 gap] w fun e w' => e = .returned (.bool true) ∧ Below w.heap.size w w' := by
  obtain ⟨at_xs, ks_xs, ac_xs⟩ := s_xs
  simp only [] at hk_xs ha_xs
  subst hk_xs ha_xs
  have h_xs : xs.length ≤ 9223372036854775807 := by unfold maxLen at hm_xs; omega
  have b_gap := w_gap
  simp [Lit.wf, IntKind.min, IntKind.max, IntKind.signed, IntKind.bits] at b_gap
  exact top_run (by kernel_rfl) (by kernel_rfl) (T := [24]) (fun f hf w => by
      rcases List.mem_cons.1 hf with e | e
      · subst e; exact head w
      · exact (List.not_mem_nil e).elim) (l := [⟨at_xs, [.int .i64], .ints xs⟩]) (args := [.slc 0 1 0 xs.length, .int .i64 gap]) («as» := [Src.av 0 cap_xs ⟨at_xs, [.int .i64], .ints xs⟩, .int .i64 gap]) (cargs := [v_xs, .int .i64 gap]) w
    (fun s h => by
      rcases List.mem_cons.1 h with e | h
      · subst e; exact hs_xs
      · exact (List.not_mem_nil h).elim)
    (Cvs.cons (src_cv (s := ⟨at_xs, [.int .i64], .ints xs⟩) rfl 1 hc_xs hn_xs) (Cvs.cons mk_int Cvs.nil))
    (by simp only [Go.Vm.convs, Go.Vm.conv]; rw [src_conv (j := 0) (s := ⟨at_xs, [.int .i64], .ints xs⟩) rfl, hv_xs])
    (law13 xs gap h_xs)

set_option maxRecDepth 100000 in
theorem lifted (os : Os) (started : os.Started) (H : Type) (enc : TypeId × Value → H) :
    ReturnsInHanded {} Try.checked os 13 .any (Rows.tracksStartsSpec.pre6 enc Try.prog Try.f13 Rows.tracksStartsRow.domain false) (Rows.tracksStartsSpec.post enc Try.prog Try.f13 false true false false) := by
  refine returnsInHanded_of_change (C := Try.checked) own started (by kernel_rfl) Try.func13
    (ChangeSpec.witness6 (enc := enc) (C := Try.checked) false ⟨#[], #[.slice none 0 0, .int .i64 0], []⟩ 8 (by kernel_rfl) (by kernel_rfl) (by kernel_rfl) (by kernel_rfl)) ?_
  intro W base args ds gs before hval0 hW hcnd _
  have hval : ∀ (j : Nat) t v, Try.f13.params[j]? = some t → args[j]? = some v → Value.okWide Try.prog W .any base t v := hval0
  have hW' := hW
  obtain ⟨p, q, hA0, hV, rfl, hfz, hnd⟩ := hW
  have hA : DataW.TrodAll enc Try.prog W 0 (fun _ => true) true Try.f13.params.toList args.toList ds p := hA0
  rw [Try.params13] at hA hval
  obtain ⟨v0, vs0, d0, ds0, p0, q0, hargs, rfl, rfl, h0, r0⟩ := trodAll_cons hA
  obtain ⟨v1, vs1, d1, ds1, p1, q1, rfl, rfl, rfl, h1, r1⟩ := trodAll_cons r0
  obtain ⟨rfl, rfl, rfl⟩ := trodAll_nil r1
  obtain rfl : args = #[v0, v1] := by cases args; simp_all
  obtain ⟨rfl, rfl⟩ := trodVars_none hV
  obtain ⟨s_xs, xs, cap_xs, hk_xs, ha_xs, hs_xs, hn_xs, hc_xs, hv_xs, hm_xs, w_xs⟩ := Go.Vm2.open_list Try.underlying22 Try.underlying3 (by kernel_rfl) (hval 0 22 v0 rfl rfl) h0
  have hlt0 : ∀ x ∈ p0, x.block < W.heap.size := fun x hx => by simpa using hW'.lt x (by simp [hx])
  obtain ⟨gap, rfl, rfl, rfl, w_gap⟩ := open_int Try.underlying3 (hval 1 3 v1 rfl rfl) h1
  clear hA0 hval0
  refine (walk W v0 s_xs xs cap_xs hk_xs ha_xs hs_xs hn_xs hc_xs hv_xs hm_xs w_xs gap w_gap).mono fun e W' ⟨he, hg⟩ => ?_
  subst he
  exact ⟨_, rfl, _, _, _, [], _, [], hW', trodAll_cons_mk (shut_bool Try.underlying4 _) trodAll_mk0, (trodAll_cons_mk (Below.trod laidOut (by kernel_rfl) (of_decide_eq_true (by kernel_rfl)) h0 hg hlt0) (trodAll_cons_mk (shut_int Try.underlying3 w_gap) trodAll_mk0)), rfl, hg.frame _, fun h => by cases h⟩

theorem over : Rows.tracksStartsRow.holds Try.pinned (OpenSpec.ofChange Rows.tracksStartsSpec) :=
  OpenClaim.holds_of_wide 13 Try.f13 rfl rfl rfl rfl rfl rfl rfl ⟨rfl, rfl, rfl, rfl, rfl⟩ rfl rfl rfl rfl rfl (by kernel_rfl) Try.func13 (by kernel_rfl)
    (of_decide_eq_true (by kernel_rfl)) (by unfold Func.isWrapper; first | (rw [if_pos (by decide +kernel)]; kernel_rfl) | (rw [if_neg (by decide +kernel)]; exact ⟨rfl, rfl⟩))
    (fun os started H enc _ => lifted os started H enc)

/-- the statement -/
theorem proved : Rows.TracksStartsSaid :=
  over
#print axioms proved
end Go.Proofs.Ytojkgickckchgaa.tracksStarts
