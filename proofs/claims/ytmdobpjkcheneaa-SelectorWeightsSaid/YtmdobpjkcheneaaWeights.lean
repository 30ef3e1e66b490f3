/-
  SelectorWeights: whatever the arguments, the law returns true, and its arguments read as before. No conditions.
-/
import Derived.Test.YtmdobpjkcheneaaRows
import Derived.Test.YtmdobpjkcheneaaVwOpen2
import Derived.Test.YtmdobpjkcheneaaVwRules7
import Derived.Test.YtmdobpjkcheneaaVmFast3
import Derived.WalkKit
import Derived.ProofKit
import Derived.OpenShut
import Derived.Carry
import Derived.Test.YtmdobpjkcheneaaHead
namespace Go.Proofs.Ytmdobpjkcheneaa.selectorWeights
open Go.ChangeShapes Go.WideShapes Go.ChangeAt Go.RowKit
open Go.Vm (Facts Val Sound)
open Go.Vm2
set_option linter.unusedVariables false
set_option linter.unusedSectionVars false

theorem own : ownKnob Try.prog.godebug = none := by kernel_rfl
theorem laidOut : laidOutB Try.prog = true := by kernel_rfl
def ts : List Nat := [4, 26, 3, 22, 38, 30, 23, 40, 5, 51, 52, 60, 67, 65, 54, 9, 21]
def tt : Go.Vm2.TT := [
  (4, ⟨.bool, false, 1, .bool false, true⟩),
  (26, ⟨(.int .i64), false, 1, .int .i64 (0), true⟩),
  (3, ⟨(.int .i64), false, 1, .int .i64 (0), true⟩),
  (22, ⟨(.slice 38 5 48 [.int .i64, .int .i64, .int .i64, .int .i64, .str]), false, 1, .nils, true⟩),
  (38, ⟨(.struct [⟨0, 1, false⟩, ⟨1, 1, false⟩, ⟨2, 1, false⟩, ⟨3, 1, false⟩, ⟨4, 1, false⟩]), true, 5, .agg [.int .i64 (0), .int .i64 (0), .int .i64 (0), .int .i64 (0), .str []], true⟩),
  (30, ⟨(.slice 3 1 8 [.int .i64]), false, 1, .nils, true⟩),
  (23, ⟨(.slice 40 4 32 [.int .i64, .int .i64, .int .i64, .bool]), false, 1, .nils, true⟩),
  (40, ⟨(.struct [⟨0, 1, false⟩, ⟨1, 1, false⟩, ⟨2, 1, false⟩, ⟨3, 1, false⟩]), true, 4, .agg [.int .i64 (0), .int .i64 (0), .int .i64 (0), .bool false], true⟩),
  (5, ⟨(.int .u8), false, 1, .int .u8 (0), true⟩),
  (51, ⟨.other, false, 1, .nilm, true⟩),
  (52, ⟨.other, false, 1, .nilf, true⟩),
  (60, ⟨(.slice 4 1 1 [.bool]), false, 1, .nils, true⟩),
  (67, ⟨(.struct [⟨0, 1, false⟩, ⟨1, 1, false⟩, ⟨2, 1, false⟩]), true, 3, .agg [.nils, .nilm, .nils], false⟩),
  (65, ⟨(.map .i64 3), false, 1, .nilm, true⟩),
  (54, ⟨(.struct [⟨0, 1, false⟩, ⟨1, 1, false⟩]), true, 2, .agg [.int .i64 (0), .int .i64 (0)], true⟩),
  (9, ⟨.string, false, 1, .str [], true⟩),
  (21, ⟨(.int .i32), false, 1, .int .i32 (0), true⟩)]
theorem tt_mk : mkTT Try.prog ts = some tt := by kernel_rfl
theorem head (w : World) : Calls Try.prog 10 #[] w fun e w' => e = .returned (.bool true) ∧ Below w.heap.size w w' :=
  Go.Proofs.Ytmdobpjkcheneaa.Head.head w
instance facts : Facts := ⟨[], [10], false⟩
instance val : Val := ⟨fun _ => 0⟩
instance sound : Sound := ⟨fun f hf => (List.not_mem_nil hf).elim⟩
theorem tt_ok : TTok Try.prog tt := ttok_mk tt_mk
def body (f : Func) : Code := match f.body with | some c => c | none => .skip
set_option maxRecDepth 100000
theorem wrap_nat (k : Nat) (h : k < 9223372036854775807) : IntKind.i64.wrap ((k : Int) + 1) = ((k + 1 : Nat) : Int) := by
  rw [IntKind.wrap_i64]; omega
theorem wrapS (n : Int) (h : -9000000000000000000 ≤ n ∧ n ≤ 9000000000000000000) : IntKind.i64.wrap n = n := by rw [IntKind.wrap_i64]; omega
abbrev Rws := List (List D)
def tk (l : Rws) (i : Nat) : Int := ((l.getD i []).getD 0 (D.n 0)).int
def tc (l : Rws) (i : Nat) : Int := ((l.getD i []).getD 1 (D.n 0)).int
def ti (l : Rws) (i : Nat) : Int := ((l.getD i []).getD 2 (D.n 0)).int
def tb (l : Rws) (i : Nat) : Bool := ((l.getD i []).getD 3 (D.n 0)).bool
def Ts (k c i : Int) : Prop := (0 ≤ k ∧ k ≤ 11) ∧ (0 ≤ c ∧ c ≤ 100) ∧ (0 ≤ i ∧ i ≤ 1000000)
instance decTs (k c i : Int) : Decidable (Ts k c i) := inferInstanceAs (Decidable (_ ∧ _))
def Tv (l : Rws) : Prop := ((1 ≤ l.length ∧ l.length ≤ 8) ∧ tb l 0 = false) ∧ ∀ i, i < l.length → Ts (tk l i) (tc l i) (ti l i)
instance decTv (l : Rws) : Decidable (Tv l) := inferInstanceAs (Decidable (_ ∧ _))
theorem test_ok (k c i : Int) (b : Bool) : SemF Try.prog 35 [.agg [.int .i64 k, .int .i64 c, .int .i64 i, .test b]] ⟨0, 0, []⟩ (fun v _ => v = .test (decide (Ts k c i)) ∧ nameless v = true) := by
  refine SemF.test ?_
  refine enter tt_ok Try.func35 (nt := 31) (cd := body Try.f35) rfl rfl rfl rfl ?_
  intro _; refine ⟨fun g => ?_, fun g => ?_⟩
  rotate_left
  · have g := of_decide_eq_false (show decide (k ≥ 0) = false from g)
    intro _
    exact ⟨false, .inl rfl, by rw [decide_eq_false (fun h : Ts k c i => g h.1.1)], rfl⟩
  have g0 := of_decide_eq_true (show decide (k ≥ 0) = true from g)
  intro _; refine ⟨fun g => ?_, fun g => ?_⟩
  rotate_left
  · have g := of_decide_eq_false (show decide (k ≤ 11) = false from g)
    intro _
    exact ⟨false, .inl rfl, by rw [decide_eq_false (fun h : Ts k c i => g h.1.2)], rfl⟩
  have g1 := of_decide_eq_true (show decide (k ≤ 11) = true from g)
  intro _; refine ⟨fun g => ?_, fun g => ?_⟩
  rotate_left
  · have g := of_decide_eq_false (show decide (c ≥ 0) = false from g)
    intro _
    exact ⟨false, .inl rfl, by rw [decide_eq_false (fun h : Ts k c i => g h.2.1.1)], rfl⟩
  have g2 := of_decide_eq_true (show decide (c ≥ 0) = true from g)
  intro _; refine ⟨fun g => ?_, fun g => ?_⟩
  rotate_left
  · have g := of_decide_eq_false (show decide (c ≤ 100) = false from g)
    intro _
    exact ⟨false, .inl rfl, by rw [decide_eq_false (fun h : Ts k c i => g h.2.1.2)], rfl⟩
  have g3 := of_decide_eq_true (show decide (c ≤ 100) = true from g)
  intro _; refine ⟨fun g => ?_, fun g => ?_⟩
  rotate_left
  · have g := of_decide_eq_false (show decide (i ≥ 0) = false from g)
    intro _
    exact ⟨false, .inl rfl, by rw [decide_eq_false (fun h : Ts k c i => g h.2.2.1)], rfl⟩
  have g4 := of_decide_eq_true (show decide (i ≥ 0) = true from g)
  intro _
  refine ⟨_, .inr rfl, ?_, rfl⟩
  have e : decide (Ts k c i) = decide (i ≤ 1000000) := decide_eq_decide.2 ⟨fun h => h.2.2.2, fun h => ⟨⟨g0, g1⟩, ⟨g2, g3⟩, ⟨g4, h⟩⟩⟩
  rw [e]
set_option maxHeartbeats 2000000 in
theorem valid_ok (l : Rws) (hl : l.length ≤ 9223372036854775807) : SemF Try.prog 14 [.slc 0 4 0 l.length] ⟨1, 1, [(0, .arr [.int .i64, .int .i64, .int .i64, .bool] .rd (.recs l))]⟩ (fun v _ => v = .test (decide (Tv l)) ∧ nameless v = true) := by
  refine SemF.test ?_
  refine enter tt_ok Try.func14 (nt := 54) (cd := body Try.f14) rfl rfl rfl rfl ?_
  intro _; refine ⟨fun g => ?_, fun g => ?_⟩
  · have g : ((l.length : Int) == 0) = true := g
    intro _
    exact ⟨false, .inl rfl, by rw [decide_eq_false (fun h : Tv l => by have := h.1.1.1; have := eq_of_beq g; omega)], rfl⟩
  have h1 : 1 ≤ l.length := by
    have g : ((l.length : Int) == 0) = false := g
    refine Nat.pos_of_ne_zero fun e => ?_
    rw [e] at g; simp at g
  intro _; refine ⟨fun g => ?_, fun g => ?_⟩
  · have g := of_decide_eq_true (show decide ((l.length : Int) > 8) = true from g)
    intro _
    exact ⟨false, .inl rfl, by rw [decide_eq_false (fun h : Tv l => by have := h.1.1.2; omega)], rfl⟩
  have h8 := of_decide_eq_false (show decide ((l.length : Int) > 8) = false from g)
  intro _; refine ⟨show (0 : Int) ≤ 0 ∧ (0 : Int) < (l.length : Int) by omega, ?_⟩
  intro _; refine ⟨show 0 + (0 : Int).toNat < l.length by show 0 + 0 < l.length; omega, ?_⟩
  intro _; refine ⟨fun g => ?_, fun g => ?_⟩
  · have g : tb l 0 = true := g
    intro _
    exact ⟨false, .inl rfl, by rw [decide_eq_false (fun h : Tv l => by have := h.1.2; rw [g] at this; cases this)], rfl⟩
  have hc : tb l 0 = false := g
  intro _
  refine loop2 tt_ok [21] [] 1 (fun k : { k : Nat // k ≤ l.length ∧ ∀ i, i < k → Ts (tk l i) (tc l i) (ti l i) } => [(21, .int .i64 (k.1 : Nat))]) (fun _ => []) (fun k => l.length - k.1) ⟨0, by omega, fun i h => by omega⟩ ?_
  intro _
  refine ⟨⟨th [] 1, rfl, rfl, rfl, rfl, rfl, rfl, ?_, ?_⟩, ?_⟩
  · (repeat' first | exact trivial | exact rfl | refine And.intro ?_ ?_)
  · (repeat' first | exact trivial | exact rfl | refine And.intro ?_ ?_)
  intro ⟨k, hk, hm⟩
  have z : 0 + k = k := Nat.zero_add k
  intro _; refine ⟨fun g => ?_, fun g => ?_⟩
  rotate_left
  · have hkl := of_decide_eq_false (show decide ((k : Int) < (l.length : Int)) = false from g)
    obtain rfl : k = l.length := by omega
    intro _
    exact ⟨true, .inl rfl, by rw [decide_eq_true (show Tv l from ⟨⟨⟨h1, by omega⟩, hc⟩, hm⟩)], rfl⟩
  have hkl := of_decide_eq_true (show decide ((k : Int) < (l.length : Int)) = true from g)
  have bad : ¬ Ts (tk l k) (tc l k) (ti l k) → decide (Tv l) = false := fun h => decide_eq_false (fun hv => h (hv.2 k (by omega)))
  intro _; refine ⟨show 0 ≤ (k : Int) ∧ (k : Int) < (l.length : Int) by omega, ?_⟩
  intro _; refine ⟨show 0 + (k : Int).toNat < l.length by omega, ?_⟩
  intro _; refine ⟨fun g => ?_, fun g => ?_⟩
  · have g := of_decide_eq_true (show decide (tk l (0 + k) < 0) = true from g)
    rw [z] at g
    intro _
    exact ⟨false, .inl rfl, by rw [bad (fun h => by have := h.1.1; omega)], rfl⟩
  have c0 := of_decide_eq_false (show decide (tk l (0 + k) < 0) = false from g)
  rw [z] at c0
  intro _; refine ⟨fun g => ?_, fun g => ?_⟩
  · have g := of_decide_eq_true (show decide (tk l (0 + k) > 11) = true from g)
    rw [z] at g
    intro _
    exact ⟨false, .inl rfl, by rw [bad (fun h => by have := h.1.2; omega)], rfl⟩
  have c1 := of_decide_eq_false (show decide (tk l (0 + k) > 11) = false from g)
  rw [z] at c1
  intro _; refine ⟨fun g => ?_, fun g => ?_⟩
  · have g := of_decide_eq_true (show decide (tc l (0 + k) < 0) = true from g)
    rw [z] at g
    intro _
    exact ⟨false, .inl rfl, by rw [bad (fun h => by have := h.2.1.1; omega)], rfl⟩
  have c2 := of_decide_eq_false (show decide (tc l (0 + k) < 0) = false from g)
  rw [z] at c2
  intro _; refine ⟨fun g => ?_, fun g => ?_⟩
  · have g := of_decide_eq_true (show decide (tc l (0 + k) > 100) = true from g)
    rw [z] at g
    intro _
    exact ⟨false, .inl rfl, by rw [bad (fun h => by have := h.2.1.2; omega)], rfl⟩
  have c3 := of_decide_eq_false (show decide (tc l (0 + k) > 100) = false from g)
  rw [z] at c3
  intro _; refine ⟨fun g => ?_, fun g => ?_⟩
  · have g := of_decide_eq_true (show decide (ti l (0 + k) < 0) = true from g)
    rw [z] at g
    intro _
    exact ⟨false, .inl rfl, by rw [bad (fun h => by have := h.2.2.1; omega)], rfl⟩
  have c4 := of_decide_eq_false (show decide (ti l (0 + k) < 0) = false from g)
  rw [z] at c4
  intro _; refine ⟨fun g => ?_, fun g => ?_⟩
  · have g := of_decide_eq_true (show decide (ti l (0 + k) > 1000000) = true from g)
    rw [z] at g
    intro _
    exact ⟨false, .inl rfl, by rw [bad (fun h => by have := h.2.2.2; omega)], rfl⟩
  have c5 := of_decide_eq_false (show decide (ti l (0 + k) > 1000000) = false from g)
  rw [z] at c5
  refine ⟨⟨k + 1, by omega, fun i hi => ?_⟩, by show l.length - (k + 1) < l.length - k; omega, th [] 1, rfl, rfl, rfl, rfl, rfl, rfl, ?_, ?_⟩
  · by_cases e : i = k
    · subst e; exact ⟨⟨by omega, by omega⟩, ⟨by omega, by omega⟩, ⟨by omega, by omega⟩⟩
    · exact hm i (by omega)
  · (repeat' first | exact trivial | exact rfl | refine And.intro ?_ ?_)
    exact (wrap_nat k (by omega)).symm
  · (repeat' first | exact trivial | exact rfl | refine And.intro ?_ ?_)
set_option maxHeartbeats 2000000 in
theorem rvalid_ok (l : Rws) (hl : l.length ≤ 9223372036854775807) : SemF Try.prog 15 [.slc 0 4 0 l.length] ⟨1, 1, [(0, .arr [.int .i64, .int .i64, .int .i64, .bool] .rd (.recs l))]⟩ (fun v _ => v = .test (decide (Tv l)) ∧ nameless v = true) := by
  refine SemF.test ?_
  refine enter tt_ok Try.func15 (nt := 32) (cd := body Try.f15) rfl rfl rfl rfl ?_
  intro _; refine ⟨fun g => ?_, fun g => ?_⟩
  · have g : (l.length : Int) < 1 := of_decide_eq_true (show decide ((l.length : Int) < 1) = true from g)
    intro _
    exact ⟨false, .inl rfl, by rw [decide_eq_false (fun h : Tv l => by have := h.1.1.1; omega)], rfl⟩
  have h1 : 1 ≤ l.length := by
    have g := of_decide_eq_false (show decide ((l.length : Int) < 1) = false from g)
    omega
  intro _; refine ⟨fun g => ?_, fun g => ?_⟩
  · have g := of_decide_eq_true (show decide ((l.length : Int) > 8) = true from g)
    intro _
    exact ⟨false, .inl rfl, by rw [decide_eq_false (fun h : Tv l => by have := h.1.1.2; omega)], rfl⟩
  have h8 := of_decide_eq_false (show decide ((l.length : Int) > 8) = false from g)
  intro _; refine ⟨show (0 : Int) ≤ 0 ∧ (0 : Int) < (l.length : Int) by omega, ?_⟩
  intro _; refine ⟨show 0 + (0 : Int).toNat < l.length by show 0 + 0 < l.length; omega, ?_⟩
  intro _; refine ⟨fun g => ?_, fun g => ?_⟩
  · have g : tb l 0 = true := g
    intro _
    exact ⟨false, .inl rfl, by rw [decide_eq_false (fun h : Tv l => by have := h.1.2; rw [g] at this; cases this)], rfl⟩
  have hc : tb l 0 = false := g
  intro _
  refine loop2 tt_ok [3] [] 1 (fun k : { k : Nat // k ≤ l.length ∧ ∀ i, i < k → Ts (tk l i) (tc l i) (ti l i) } => [(3, .int .i64 (k.1 : Nat))]) (fun _ => []) (fun k => l.length - k.1) ⟨0, by omega, fun i h => by omega⟩ ?_
  intro _
  refine ⟨⟨th [] 1, rfl, rfl, rfl, rfl, rfl, rfl, ?_, ?_⟩, ?_⟩
  · (repeat' first | exact trivial | exact rfl | refine And.intro ?_ ?_)
  · (repeat' first | exact trivial | exact rfl | refine And.intro ?_ ?_)
  intro ⟨k, hk, hm⟩
  have z : 0 + k = k := Nat.zero_add k
  intro _; refine ⟨fun g => ?_, fun g => ?_⟩
  rotate_left
  · have hkl := of_decide_eq_false (show decide ((k : Int) < (l.length : Int)) = false from g)
    obtain rfl : k = l.length := by omega
    intro _
    exact ⟨true, .inl rfl, by rw [decide_eq_true (show Tv l from ⟨⟨⟨h1, by omega⟩, hc⟩, hm⟩)], rfl⟩
  have hkl := of_decide_eq_true (show decide ((k : Int) < (l.length : Int)) = true from g)
  have bad : ¬ Ts (tk l k) (tc l k) (ti l k) → decide (Tv l) = false := fun h => decide_eq_false (fun hv => h (hv.2 k (by omega)))
  intro _; refine ⟨show 0 ≤ (k : Int) ∧ (k : Int) < (l.length : Int) by omega, ?_⟩
  intro _; refine ⟨show 0 + (k : Int).toNat < l.length by omega, ?_⟩
  intro _
  refine call_pure [] (test_ok (tk l (0 + k)) (tc l (0 + k)) (ti l (0 + k)) (tb l (0 + k))) rfl rfl rfl ?_ ?_ ?_
  · (repeat' first | exact trivial | exact rfl | refine And.intro ?_ ?_)
  · (repeat' first | exact trivial | exact rfl | refine And.intro ?_ ?_)
  intro v hv _
  subst hv
  intro _; refine ⟨fun g => ?_, fun g => ?_⟩
  · have g : (!decide (Ts (tk l (0 + k)) (tc l (0 + k)) (ti l (0 + k)))) = true := g
    rw [z, Bool.not_eq_true'] at g
    have g := of_decide_eq_false g
    intro _
    exact ⟨false, .inl rfl, by rw [bad g], rfl⟩
  have g : (!decide (Ts (tk l (0 + k)) (tc l (0 + k)) (ti l (0 + k)))) = false := g
  rw [z, Bool.not_eq_false'] at g
  have g := of_decide_eq_true g
  refine ⟨⟨k + 1, by omega, fun i hi => ?_⟩, by show l.length - (k + 1) < l.length - k; omega, th [] 1, rfl, rfl, rfl, rfl, rfl, rfl, ?_, ?_⟩
  · by_cases e : i = k
    · subst e; exact g
    · exact hm i (by omega)
  · (repeat' first | exact trivial | exact rfl | refine And.intro ?_ ?_)
    exact (wrap_nat k (by omega)).symm
  · (repeat' first | exact trivial | exact rfl | refine And.intro ?_ ?_)
def wt (l : Rws) : Nat → Int
  | 0 => 0
  | k + 1 => wt l k + (if ti l k ≠ 0 then 10000 else 0) + (if tc l k ≠ 0 then 100 else 0) + (if tk l k ≠ 0 then 1 else 0)
theorem wt_bd (l : Rws) : ∀ k, 0 ≤ wt l k ∧ wt l k ≤ 10101 * (k : Int)
  | 0 => ⟨Int.le_refl _, by show (0 : Int) ≤ 10101 * 0; omega⟩
  | k + 1 => by
    have := wt_bd l k
    unfold wt
    split <;> split <;> split <;> omega
def WQ (l : Rws) : V := if Tv l then .tup [.int .i64 (wt l l.length), .int .i64 0] else .tup [.int .i64 0, .int .i64 1]
theorem WQ_ok {l : Rws} (e : Tv l) : WQ l = .tup [.int .i64 (wt l l.length), .int .i64 0] := if_pos e
theorem WQ_bad {l : Rws} (e : ¬ Tv l) : WQ l = .tup [.int .i64 0, .int .i64 1] := if_neg e
set_option maxHeartbeats 2000000 in
theorem Weight_ok (l : Rws) (hl : l.length ≤ 9223372036854775807) : SemF Try.prog 19 [.slc 0 4 0 l.length] ⟨1, 1, [(0, .arr [.int .i64, .int .i64, .int .i64, .bool] .rd (.recs l))]⟩ (fun v _ => v = WQ l ∧ nameless v = true) := by
  refine enter tt_ok Try.func19 (nt := 33) (cd := body Try.f19) rfl rfl rfl rfl ?_
  intro _
  refine call_pure [(0, some 0)] (valid_ok l hl) rfl rfl rfl ?_ ?_ ?_
  · (repeat' first | exact trivial | exact rfl | refine And.intro ?_ ?_)
  · (repeat' first | exact trivial | exact rfl | refine And.intro ?_ ?_)
  intro v hv _
  subst hv
  intro _; refine ⟨fun g => ?_, fun g => ?_⟩
  · have g : (!decide (Tv l)) = true := g
    rw [Bool.not_eq_true'] at g
    have g := of_decide_eq_false g
    intro _
    exact ⟨(WQ_bad g).symm, rfl⟩
  have g : (!decide (Tv l)) = false := g
  rw [Bool.not_eq_false'] at g
  have hV := of_decide_eq_true g
  have h8 := hV.1.1.2
  intro _
  refine loop2 tt_ok [12, 4] [] 1 (fun k : { k : Nat // k ≤ l.length } => [(12, .int .i64 (k.1 : Nat)), (4, .int .i64 (wt l k.1))]) (fun _ => []) (fun k => l.length - k.1) ⟨0, by omega⟩ ?_
  intro _
  refine ⟨⟨th [] 1, rfl, rfl, rfl, rfl, rfl, rfl, ?_, ?_⟩, ?_⟩
  · (repeat' first | exact trivial | exact rfl | refine And.intro ?_ ?_)
  · (repeat' first | exact trivial | exact rfl | refine And.intro ?_ ?_)
  intro ⟨k, hk⟩
  have z : 0 + k = k := Nat.zero_add k
  have hb := wt_bd l k
  intro _; refine ⟨fun g => ?_, fun g => ?_⟩
  rotate_left
  · have hkl := of_decide_eq_false (show decide ((k : Int) < (l.length : Int)) = false from g)
    obtain rfl : k = l.length := by omega
    intro _
    exact ⟨(WQ_ok hV).symm, rfl⟩
  have hkl := of_decide_eq_true (show decide ((k : Int) < (l.length : Int)) = true from g)
  intro _; refine ⟨show 0 ≤ (k : Int) ∧ (k : Int) < (l.length : Int) by omega, ?_⟩
  intro _; refine ⟨show 0 + (k : Int).toNat < l.length by omega, ?_⟩
  intro _; refine ⟨fun g => ?_, fun g => ?_⟩
  · have q0 : ti l k ≠ 0 := by
      have g : (ti l (0 + k) != 0) = true := g
      rw [z] at g
      simpa using g
    intro _; refine ⟨fun g => ?_, fun g => ?_⟩
    · have q1 : tc l k ≠ 0 := by
        have g : (tc l (0 + k) != 0) = true := g
        rw [z] at g
        simpa using g
      intro _; refine ⟨fun g => ?_, fun g => ?_⟩
      · have q2 : tk l k ≠ 0 := by
          have g : (tk l (0 + k) != 0) = true := g
          rw [z] at g
          simpa using g
        refine ⟨⟨k + 1, by omega⟩, by show l.length - (k + 1) < l.length - k; omega, th [] 1, rfl, rfl, rfl, rfl, rfl, rfl, ?_, ?_⟩
        · (repeat' first | exact trivial | exact rfl | refine And.intro ?_ ?_)
          · exact (wrap_nat k (by omega)).symm
          · show wt l k + (if ti l k ≠ 0 then 10000 else 0) + (if tc l k ≠ 0 then 100 else 0) + (if tk l k ≠ 0 then 1 else 0) = IntKind.i64.wrap (IntKind.i64.wrap (IntKind.i64.wrap (wt l k + 10000) + 100) + 1)
            rw [if_pos q0, if_pos q1, if_pos q2]
            rw [wrapS (wt l k + 10000) ⟨by omega, by omega⟩, wrapS (wt l k + 10000 + 100) ⟨by omega, by omega⟩, wrapS (wt l k + 10000 + 100 + 1) ⟨by omega, by omega⟩]
            try omega
        · (repeat' first | exact trivial | exact rfl | refine And.intro ?_ ?_)
      · have q2 : ¬ tk l k ≠ 0 := by
          have g : (tk l (0 + k) != 0) = false := g
          rw [z] at g
          simpa using g
        refine ⟨⟨k + 1, by omega⟩, by show l.length - (k + 1) < l.length - k; omega, th [] 1, rfl, rfl, rfl, rfl, rfl, rfl, ?_, ?_⟩
        · (repeat' first | exact trivial | exact rfl | refine And.intro ?_ ?_)
          · exact (wrap_nat k (by omega)).symm
          · show wt l k + (if ti l k ≠ 0 then 10000 else 0) + (if tc l k ≠ 0 then 100 else 0) + (if tk l k ≠ 0 then 1 else 0) = IntKind.i64.wrap (IntKind.i64.wrap (wt l k + 10000) + 100)
            rw [if_pos q0, if_pos q1, if_neg q2]
            rw [wrapS (wt l k + 10000) ⟨by omega, by omega⟩, wrapS (wt l k + 10000 + 100) ⟨by omega, by omega⟩]
            try omega
        · (repeat' first | exact trivial | exact rfl | refine And.intro ?_ ?_)
    · have q1 : ¬ tc l k ≠ 0 := by
        have g : (tc l (0 + k) != 0) = false := g
        rw [z] at g
        simpa using g
      intro _; refine ⟨fun g => ?_, fun g => ?_⟩
      · have q2 : tk l k ≠ 0 := by
          have g : (tk l (0 + k) != 0) = true := g
          rw [z] at g
          simpa using g
        refine ⟨⟨k + 1, by omega⟩, by show l.length - (k + 1) < l.length - k; omega, th [] 1, rfl, rfl, rfl, rfl, rfl, rfl, ?_, ?_⟩
        · (repeat' first | exact trivial | exact rfl | refine And.intro ?_ ?_)
          · exact (wrap_nat k (by omega)).symm
          · show wt l k + (if ti l k ≠ 0 then 10000 else 0) + (if tc l k ≠ 0 then 100 else 0) + (if tk l k ≠ 0 then 1 else 0) = IntKind.i64.wrap (IntKind.i64.wrap (wt l k + 10000) + 1)
            rw [if_pos q0, if_neg q1, if_pos q2]
            rw [wrapS (wt l k + 10000) ⟨by omega, by omega⟩, wrapS (wt l k + 10000 + 1) ⟨by omega, by omega⟩]
            try omega
        · (repeat' first | exact trivial | exact rfl | refine And.intro ?_ ?_)
      · have q2 : ¬ tk l k ≠ 0 := by
          have g : (tk l (0 + k) != 0) = false := g
          rw [z] at g
          simpa using g
        refine ⟨⟨k + 1, by omega⟩, by show l.length - (k + 1) < l.length - k; omega, th [] 1, rfl, rfl, rfl, rfl, rfl, rfl, ?_, ?_⟩
        · (repeat' first | exact trivial | exact rfl | refine And.intro ?_ ?_)
          · exact (wrap_nat k (by omega)).symm
          · show wt l k + (if ti l k ≠ 0 then 10000 else 0) + (if tc l k ≠ 0 then 100 else 0) + (if tk l k ≠ 0 then 1 else 0) = IntKind.i64.wrap (wt l k + 10000)
            rw [if_pos q0, if_neg q1, if_neg q2]
            rw [wrapS (wt l k + 10000) ⟨by omega, by omega⟩]
            try omega
        · (repeat' first | exact trivial | exact rfl | refine And.intro ?_ ?_)
  · have q0 : ¬ ti l k ≠ 0 := by
      have g : (ti l (0 + k) != 0) = false := g
      rw [z] at g
      simpa using g
    intro _; refine ⟨fun g => ?_, fun g => ?_⟩
    · have q1 : tc l k ≠ 0 := by
        have g : (tc l (0 + k) != 0) = true := g
        rw [z] at g
        simpa using g
      intro _; refine ⟨fun g => ?_, fun g => ?_⟩
      · have q2 : tk l k ≠ 0 := by
          have g : (tk l (0 + k) != 0) = true := g
          rw [z] at g
          simpa using g
        refine ⟨⟨k + 1, by omega⟩, by show l.length - (k + 1) < l.length - k; omega, th [] 1, rfl, rfl, rfl, rfl, rfl, rfl, ?_, ?_⟩
        · (repeat' first | exact trivial | exact rfl | refine And.intro ?_ ?_)
          · exact (wrap_nat k (by omega)).symm
          · show wt l k + (if ti l k ≠ 0 then 10000 else 0) + (if tc l k ≠ 0 then 100 else 0) + (if tk l k ≠ 0 then 1 else 0) = IntKind.i64.wrap (IntKind.i64.wrap (wt l k + 100) + 1)
            rw [if_neg q0, if_pos q1, if_pos q2]
            rw [wrapS (wt l k + 100) ⟨by omega, by omega⟩, wrapS (wt l k + 100 + 1) ⟨by omega, by omega⟩]
            try omega
        · (repeat' first | exact trivial | exact rfl | refine And.intro ?_ ?_)
      · have q2 : ¬ tk l k ≠ 0 := by
          have g : (tk l (0 + k) != 0) = false := g
          rw [z] at g
          simpa using g
        refine ⟨⟨k + 1, by omega⟩, by show l.length - (k + 1) < l.length - k; omega, th [] 1, rfl, rfl, rfl, rfl, rfl, rfl, ?_, ?_⟩
        · (repeat' first | exact trivial | exact rfl | refine And.intro ?_ ?_)
          · exact (wrap_nat k (by omega)).symm
          · show wt l k + (if ti l k ≠ 0 then 10000 else 0) + (if tc l k ≠ 0 then 100 else 0) + (if tk l k ≠ 0 then 1 else 0) = IntKind.i64.wrap (wt l k + 100)
            rw [if_neg q0, if_pos q1, if_neg q2]
            rw [wrapS (wt l k + 100) ⟨by omega, by omega⟩]
            try omega
        · (repeat' first | exact trivial | exact rfl | refine And.intro ?_ ?_)
    · have q1 : ¬ tc l k ≠ 0 := by
        have g : (tc l (0 + k) != 0) = false := g
        rw [z] at g
        simpa using g
      intro _; refine ⟨fun g => ?_, fun g => ?_⟩
      · have q2 : tk l k ≠ 0 := by
          have g : (tk l (0 + k) != 0) = true := g
          rw [z] at g
          simpa using g
        refine ⟨⟨k + 1, by omega⟩, by show l.length - (k + 1) < l.length - k; omega, th [] 1, rfl, rfl, rfl, rfl, rfl, rfl, ?_, ?_⟩
        · (repeat' first | exact trivial | exact rfl | refine And.intro ?_ ?_)
          · exact (wrap_nat k (by omega)).symm
          · show wt l k + (if ti l k ≠ 0 then 10000 else 0) + (if tc l k ≠ 0 then 100 else 0) + (if tk l k ≠ 0 then 1 else 0) = IntKind.i64.wrap (wt l k + 1)
            rw [if_neg q0, if_neg q1, if_pos q2]
            rw [wrapS (wt l k + 1) ⟨by omega, by omega⟩]
            try omega
        · (repeat' first | exact trivial | exact rfl | refine And.intro ?_ ?_)
      · have q2 : ¬ tk l k ≠ 0 := by
          have g : (tk l (0 + k) != 0) = false := g
          rw [z] at g
          simpa using g
        refine ⟨⟨k + 1, by omega⟩, by show l.length - (k + 1) < l.length - k; omega, th [] 1, rfl, rfl, rfl, rfl, rfl, rfl, ?_, ?_⟩
        · (repeat' first | exact trivial | exact rfl | refine And.intro ?_ ?_)
          · exact (wrap_nat k (by omega)).symm
          · show wt l k + (if ti l k ≠ 0 then 10000 else 0) + (if tc l k ≠ 0 then 100 else 0) + (if tk l k ≠ 0 then 1 else 0) = wt l k
            rw [if_neg q0, if_neg q1, if_neg q2]
            omega
        · (repeat' first | exact trivial | exact rfl | refine And.intro ?_ ?_)
theorem app_tst {a b : Rws} (i : Nat) : (i < a.length → (a ++ b).getD i [] = a.getD i []) ∧ (a.length ≤ i → (a ++ b).getD i [] = b.getD (i - a.length) []) := by
  constructor
  · intro h
    rw [List.getD_eq_getElem?_getD, List.getD_eq_getElem?_getD, List.getElem?_append_left h]
  · intro h
    rw [List.getD_eq_getElem?_getD, List.getD_eq_getElem?_getD, List.getElem?_append_right h]
theorem wt_left {a b : Rws} : ∀ k, k ≤ a.length → wt (a ++ b) k = wt a k
  | 0, _ => rfl
  | k + 1, h => by
    unfold wt
    rw [wt_left k (by omega)]
    unfold ti tc tk
    rw [(app_tst k).1 (by omega)]
theorem wt_right {a b : Rws} : ∀ k, wt (a ++ b) (a.length + k) = wt a a.length + wt b k
  | 0 => by
    rw [Nat.add_zero, wt_left _ (Nat.le_refl _)]
    show wt a a.length = wt a a.length + 0
    rw [Int.add_zero]
  | k + 1 => by
    show wt (a ++ b) (a.length + k) + (if ti (a ++ b) (a.length + k) ≠ 0 then 10000 else 0) + (if tc (a ++ b) (a.length + k) ≠ 0 then 100 else 0) + (if tk (a ++ b) (a.length + k) ≠ 0 then 1 else 0) = wt a a.length + (wt b k + (if ti b k ≠ 0 then 10000 else 0) + (if tc b k ≠ 0 then 100 else 0) + (if tk b k ≠ 0 then 1 else 0))
    rw [wt_right k]
    have e : (a ++ b).getD (a.length + k) [] = b.getD k [] := by rw [(app_tst (a.length + k)).2 (by omega), show a.length + k - a.length = k by omega]
    have e1 : ti (a ++ b) (a.length + k) = ti b k := by unfold ti; rw [e]
    have e2 : tc (a ++ b) (a.length + k) = tc b k := by unfold tc; rw [e]
    have e3 : tk (a ++ b) (a.length + k) = tk b k := by unfold tk; rw [e]
    rw [e1, e2, e3]
    omega
theorem Tv_app {a b : Rws} (ha : Tv a) (hb : Tv b) (h : a.length + b.length ≤ 8) : Tv (a ++ b) := by
  refine ⟨⟨⟨by rw [List.length_append]; have := ha.1.1.1; omega, by rw [List.length_append]; exact h⟩, ?_⟩, fun i hi => ?_⟩
  · have := ha.1.2
    unfold tb at this ⊢
    rw [(app_tst 0).1 ha.1.1.1]; exact this
  · rw [List.length_append] at hi
    unfold tk tc ti
    by_cases c : i < a.length
    · rw [(app_tst i).1 c]; exact ha.2 i c
    · rw [(app_tst i).2 (by omega)]; exact hb.2 (i - a.length) (by omega)
set_option maxHeartbeats 4000000 in
theorem law8 (a b : Rws) (hla : List.length a ≤ 9223372036854775807) (hlb : List.length b ≤ 9223372036854775807) : SemF Try.prog 8 [.slc 0 4 0 a.length, .slc 1 4 0 b.length] ⟨2, 2, [(0, .arr [.int .i64, .int .i64, .int .i64, .bool] .ro (.recs a)), (1, .arr [.int .i64, .int .i64, .int .i64, .bool] .ro (.recs b))]⟩ (fun v _ => IsTrue v) := by
  refine enter tt_ok Try.func8 (nt := 85) (cd := body Try.f8) rfl rfl rfl rfl ?_
  intro _
  refine head_ok rfl Try.func10 (cd := body Try.f10) rfl ?_
  intro _; refine ⟨fun g => ?_, fun g => ?_⟩
  · intro _
    show true = true
    rfl
  intro _; refine ⟨fun g => ?_, fun g => ?_⟩
  · intro _
    show true = true
    rfl
  intro _
  refine call_pure [(0, some 0)] (rvalid_ok a hla) rfl rfl rfl ?_ ?_ ?_
  · (repeat' first | exact trivial | exact rfl | refine And.intro ?_ ?_)
  · (repeat' first | exact trivial | exact rfl | refine And.intro ?_ ?_)
  intro v hv _
  subst hv
  intro _; refine ⟨fun g => ?_, fun g => ?_⟩
  · intro _
    show true = true
    rfl
  have g : (!decide (Tv a)) = false := g
  rw [Bool.not_eq_false'] at g
  have ha := of_decide_eq_true g
  intro _
  refine call_pure [(0, some 1)] (rvalid_ok b hlb) rfl rfl rfl ?_ ?_ ?_
  · (repeat' first | exact trivial | exact rfl | refine And.intro ?_ ?_)
  · (repeat' first | exact trivial | exact rfl | refine And.intro ?_ ?_)
  intro v hv _
  subst hv
  intro _; refine ⟨fun g => ?_, fun g => ?_⟩
  · intro _
    show true = true
    rfl
  have g : (!decide (Tv b)) = false := g
  rw [Bool.not_eq_false'] at g
  have hb := of_decide_eq_true g
  have a1 := ha.1.1.1
  have a2 := ha.1.1.2
  have b1 := hb.1.1.1
  have b2 := hb.1.1.2
  have eta : (a.drop 0).take a.length = a := by simp
  have etb : (b.drop 0).take b.length = b := by simp
  intro _; refine ⟨show 0 + a.length ≤ a.length by omega, ?_⟩
  intro _; refine ⟨fun g3 => by have := Nat.eq_of_beq_eq_true g3; omega, fun _ => ?_⟩
  refine ⟨⟨rfl, by show 0 + a.length ≤ _; omega, by show (0 + a.length) * 32 ≤ _; omega⟩, ?_⟩
  intro _; refine ⟨show 0 + b.length ≤ b.length by omega, ?_⟩
  intro _; refine ⟨fun g3 => by have := Nat.eq_of_beq_eq_true g3; omega, fun _ => ?_⟩
  refine ⟨⟨by show 0 + a.length = ([] ++ (a.drop 0).take a.length : Rws).length; rw [eta]; simp, by show 0 + a.length + b.length ≤ _; omega, by show (0 + a.length + b.length) * 32 ≤ _; omega⟩, ?_⟩
  have eC : a ++ b = ([] ++ (a.drop 0).take a.length) ++ (b.drop 0).take b.length := by rw [eta, etb]; rfl
  have eL : (a ++ b).length = 0 + a.length + b.length := by rw [List.length_append]; omega
  intro _
  refine call_pure [(0, some 0)] (Weight_ok a hla) rfl rfl rfl ?_ ?_ ?_
  · (repeat' first | exact trivial | exact rfl | refine And.intro ?_ ?_)
  · (repeat' first | exact trivial | exact rfl | refine And.intro ?_ ?_)
  intro v hv _
  rw [WQ_ok ha] at hv; subst hv
  intro _
  refine call_pure [(0, some 1)] (Weight_ok b hlb) rfl rfl rfl ?_ ?_ ?_
  · (repeat' first | exact trivial | exact rfl | refine And.intro ?_ ?_)
  · (repeat' first | exact trivial | exact rfl | refine And.intro ?_ ?_)
  intro v hv _
  rw [WQ_ok hb] at hv; subst hv
  intro _
  refine call_pure [(0, some 4)] (Weight_ok (a ++ b) (by rw [eL]; omega)) rfl rfl rfl ?_ ?_ ?_
  · (repeat' first | exact trivial | exact rfl | refine And.intro ?_ ?_)
    exact eC
  · (repeat' first | exact trivial | exact rfl | refine And.intro ?_ ?_)
    exact eL
  intro v hv _
  have wa := wt_bd a a.length
  have wb := wt_bd b b.length
  by_cases h8 : a.length + b.length ≤ 8
  · rw [WQ_ok (Tv_app ha hb h8)] at hv; subst hv
    have eW : wt (a ++ b) (a ++ b).length = wt a a.length + wt b b.length := by rw [List.length_append]; exact wt_right b.length
    intro _; refine ⟨fun g => ?_, fun g => ?_⟩
    · exfalso
      have g := of_decide_eq_true (show decide (((0 + a.length + b.length : Nat) : Int) > 8) = true from g)
      omega
    intro _; refine ⟨fun _ => ?_, fun g => absurd g (by decide)⟩
    intro _; refine ⟨fun _ => ?_, fun g => absurd g (by decide)⟩
    intro _; refine ⟨fun _ => ?_, fun g => absurd g (by decide)⟩
    intro _
    show (wt (a ++ b) (a ++ b).length == IntKind.i64.wrap (wt a a.length + wt b b.length)) = true
    rw [wrapS _ ⟨by omega, by omega⟩, eW]
    simp
  · rw [WQ_bad (fun h => h8 (by have := h.1.1.2; rw [List.length_append] at this; exact this))] at hv; subst hv
    intro _; refine ⟨fun g => ?_, fun g => ?_⟩
    · intro _; refine ⟨fun _ => ?_, fun g => absurd g (by decide)⟩
      intro _
      show ((0 : Int) == 0) = true
      rfl
    · exfalso
      have g := of_decide_eq_false (show decide (((0 + a.length + b.length : Nat) : Int) > 8) = false from g)
      omega

theorem walk (w : World) (v_q0 : Value) (s_q0 : Src) (q0 : List (List Go.Vm2.D)) (cap_q0 : Nat) (hk_q0 : s_q0.ks = [.int .i64, .int .i64, .int .i64, .bool]) (ha_q0 : s_q0.ac = .recs q0) (hs_q0 : s_q0.lies w) (hn_q0 : s_q0.at_ = none → q0.length = 0) (hc_q0 : q0.length ≤ cap_q0) (hv_q0 : v_q0 = s_q0.val cap_q0) (hm_q0 : q0.length ≤ maxLen) (w_q0 : ∀ n ∈ q0, rowWf [.int .i64, .int .i64, .int .i64, .bool] n) (v_k0 : Value) (s_k0 : Src) (k0 : List (List Go.Vm2.D)) (cap_k0 : Nat) (hk_k0 : s_k0.ks = [.int .i64, .int .i64, .int .i64, .bool]) (ha_k0 : s_k0.ac = .recs k0) (hs_k0 : s_k0.lies w) (hn_k0 : s_k0.at_ = none → k0.length = 0) (hc_k0 : k0.length ≤ cap_k0) (hv_k0 : v_k0 = s_k0.val cap_k0) (hm_k0 : k0.length ≤ maxLen) (w_k0 : ∀ n ∈ k0, rowWf [.int .i64, .int .i64, .int .i64, .bool] n) :
    Calls Try.prog 8 #[v_q0, v_k0] w fun e w' => e = .returned (.bool true) ∧ Below w.heap.size w w' := by
  obtain ⟨at_q0, ks_q0, ac_q0⟩ := s_q0
  simp only [] at hk_q0 ha_q0
  subst hk_q0 ha_q0
  have h_q0 : q0.length ≤ 9223372036854775807 := by unfold maxLen at hm_q0; omega
  obtain ⟨at_k0, ks_k0, ac_k0⟩ := s_k0
  simp only [] at hk_k0 ha_k0
  subst hk_k0 ha_k0
  have h_k0 : k0.length ≤ 9223372036854775807 := by unfold maxLen at hm_k0; omega
  exact top_run (by kernel_rfl) (by kernel_rfl) (T := [10]) (fun f hf w => by
      rcases List.mem_cons.1 hf with e | e
      · subst e; exact head w
      · exact (List.not_mem_nil e).elim) (l := [⟨at_q0, [.int .i64, .int .i64, .int .i64, .bool], .recs q0⟩, ⟨at_k0, [.int .i64, .int .i64, .int .i64, .bool], .recs k0⟩]) (args := [.slc 0 4 0 q0.length, .slc 1 4 0 k0.length]) («as» := [Src.av 0 cap_q0 ⟨at_q0, [.int .i64, .int .i64, .int .i64, .bool], .recs q0⟩, Src.av 1 cap_k0 ⟨at_k0, [.int .i64, .int .i64, .int .i64, .bool], .recs k0⟩]) (cargs := [v_q0, v_k0]) w
    (fun s h => by
      rcases List.mem_cons.1 h with e | h
      · subst e; exact hs_q0
      · rcases List.mem_cons.1 h with e | h
        · subst e; exact hs_k0
        · exact (List.not_mem_nil h).elim)
    (Cvs.cons (src_cv (s := ⟨at_q0, [.int .i64, .int .i64, .int .i64, .bool], .recs q0⟩) rfl 4 hc_q0 hn_q0) (Cvs.cons (src_cv (s := ⟨at_k0, [.int .i64, .int .i64, .int .i64, .bool], .recs k0⟩) rfl 4 hc_k0 hn_k0) Cvs.nil))
    (by simp only [Go.Vm.convs]; rw [src_conv (j := 0) (s := ⟨at_q0, [.int .i64, .int .i64, .int .i64, .bool], .recs q0⟩) rfl, src_conv (j := 1) (s := ⟨at_k0, [.int .i64, .int .i64, .int .i64, .bool], .recs k0⟩) rfl, hv_q0, hv_k0])
    (law8 q0 k0 h_q0 h_k0)

set_option maxRecDepth 100000 in
theorem lifted (os : Os) (started : os.Started) (H : Type) (enc : TypeId × Value → H) :
    ReturnsInHanded {} Try.checked os 8 .any (Rows.selectorWeightsSpec.pre6 enc Try.prog Try.f8 Rows.selectorWeightsRow.domain false) (Rows.selectorWeightsSpec.post enc Try.prog Try.f8 false true false false) := by
  refine returnsInHanded_of_change (C := Try.checked) own started (by kernel_rfl) Try.func8
    (ChangeSpec.witness6 (enc := enc) (C := Try.checked) false ⟨#[], #[.slice none 0 0, .slice none 0 0], []⟩ 8 (by kernel_rfl) (by kernel_rfl) (by kernel_rfl) (by kernel_rfl)) ?_
  intro W base args ds gs before hval0 hW hcnd _
  have hval : ∀ (j : Nat) t v, Try.f8.params[j]? = some t → args[j]? = some v → Value.okWide Try.prog W .any base t v := hval0
  have hW' := hW
  obtain ⟨p, q, hA0, hV, rfl, hfz, hnd⟩ := hW
  have hA : DataW.TrodAll enc Try.prog W 0 (fun _ => true) true Try.f8.params.toList args.toList ds p := hA0
  rw [Try.params8] at hA hval
  obtain ⟨v0, vs0, d0, ds0, p0, q0, hargs, rfl, rfl, h0, r0⟩ := trodAll_cons hA
  obtain ⟨v1, vs1, d1, ds1, p1, q1, rfl, rfl, rfl, h1, r1⟩ := trodAll_cons r0
  obtain ⟨rfl, rfl, rfl⟩ := trodAll_nil r1
  obtain rfl : args = #[v0, v1] := by cases args; simp_all
  obtain ⟨rfl, rfl⟩ := trodVars_none hV
  obtain ⟨s_q0, q0, cap_q0, hk_q0, ha_q0, hs_q0, hn_q0, hc_q0, hv_q0, hm_q0, w_q0⟩ := Go.Vm2.open_recs (ks := [.int .i64, .int .i64, .int .i64, .bool]) Try.underlying23 Try.underlying40 (by kernel_rfl) (by simp) (by kernel_rfl) (hval 0 23 v0 rfl rfl) h0
  have hlt0 : ∀ x ∈ p0, x.block < W.heap.size := fun x hx => by simpa using hW'.lt x (by simp [hx])
  obtain ⟨s_k0, k0, cap_k0, hk_k0, ha_k0, hs_k0, hn_k0, hc_k0, hv_k0, hm_k0, w_k0⟩ := Go.Vm2.open_recs (ks := [.int .i64, .int .i64, .int .i64, .bool]) Try.underlying23 Try.underlying40 (by kernel_rfl) (by simp) (by kernel_rfl) (hval 1 23 v1 rfl rfl) h1
  have hlt1 : ∀ x ∈ p1, x.block < W.heap.size := fun x hx => by simpa using hW'.lt x (by simp [hx])
  clear hA0 hval0
  refine (walk W v0 s_q0 q0 cap_q0 hk_q0 ha_q0 hs_q0 hn_q0 hc_q0 hv_q0 hm_q0 w_q0 v1 s_k0 k0 cap_k0 hk_k0 ha_k0 hs_k0 hn_k0 hc_k0 hv_k0 hm_k0 w_k0).mono fun e W' ⟨he, hg⟩ => ?_
  subst he
  exact ⟨_, rfl, _, _, _, [], _, [], hW', trodAll_cons_mk (shut_bool Try.underlying4 _) trodAll_mk0, (trodAll_cons_mk (Below.trod laidOut (by kernel_rfl) (of_decide_eq_true (by kernel_rfl)) h0 hg hlt0) (trodAll_cons_mk (Below.trod laidOut (by kernel_rfl) (of_decide_eq_true (by kernel_rfl)) h1 hg hlt1) trodAll_mk0)), rfl, hg.frame _, fun h => by cases h⟩

theorem over : Rows.selectorWeightsRow.holds Try.pinned (OpenSpec.ofChange Rows.selectorWeightsSpec) :=
  OpenClaim.holds_of_wide 8 Try.f8 rfl rfl rfl rfl rfl rfl rfl ⟨rfl, rfl, rfl, rfl, rfl⟩ rfl rfl rfl rfl rfl (by kernel_rfl) Try.func8 (by kernel_rfl)
    (of_decide_eq_true (by kernel_rfl)) (by unfold Func.isWrapper; first | (rw [if_pos (by decide +kernel)]; kernel_rfl) | (rw [if_neg (by decide +kernel)]; exact ⟨rfl, rfl⟩))
    (fun os started H enc _ => lifted os started H enc)

/-- the statement -/
theorem proved : Rows.SelectorWeightsSaid :=
  over
#print axioms proved
end Go.Proofs.Ytmdobpjkcheneaa.selectorWeights
