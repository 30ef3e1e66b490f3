/-
  Trees of nodes and selectors: contracts of packages tree, match and selector, and of their reference. No conditions beyond those that its theorems name.
-/
import Derived.Test.YtmdobpjkcheneaaRows
import Derived.Test.YtmdobpjkcheneaaVwOpen2
import Derived.Test.YtmdobpjkcheneaaVwRules7
import Derived.Test.YtmdobpjkcheneaaVmFast3
import Derived.WalkKit
import Derived.ProofKit
import Derived.OpenShut
import Derived.Carry
import Derived.Test.YtmdobpjkcheneaaHead
import Derived.Laws.RangeAny
import Derived.Test.YtmdobpjkcheneaaVwRules8
namespace Go.Proofs.Ytmdobpjkcheneaa.selectorBegins
open Go.ChangeShapes Go.WideShapes Go.ChangeAt Go.RowKit
open Go.Vm (Facts Val Sound)
open Go.Vm2
set_option linter.unusedVariables false
set_option linter.unusedSectionVars false

set_option maxRecDepth 100000
def ts : List Nat := [4, 26, 3, 22, 38, 30, 23, 40, 5, 51, 52, 60, 67, 65, 54, 9, 21]
def tt : Go.Vm2.TT := [
  (4, ⟨.bool, false, 1, .bool false, true⟩),
  (26, ⟨(.int .i64), false, 1, .int .i64 (0), true⟩),
  (3, ⟨(.int .i64), false, 1, .int .i64 (0), true⟩),
  (22, ⟨(.slice 38 5 48 [.int .i64, .int .i64, .int .i64, .int .i64, .str]), false, 1, .nils, true⟩),
  (38, ⟨(.struct [⟨0, 1, false⟩, ⟨1, 1, false⟩, ⟨2, 1, false⟩, ⟨3, 1, false⟩, ⟨4, 1, false⟩]), true, 5, .agg [.int .i64 (0), .int .i64 (0), .int .i64 (0), .int .i64 (0), .str []], true⟩),
  (30, ⟨(.slice 3 1 8 [.int .i64]), false, 1, .nils, true⟩),
  (23, ⟨(.slice 40 4 32 [.int .i64, .int .i64, .int .i64, .bool]), false, 1, .nils, true⟩),
  (40, ⟨(.struct [⟨0, 1, false⟩, ⟨1, 1, false⟩, ⟨2, 1, false⟩, ⟨3, 1, false⟩]), true, 4, .agg [.int .i64 (0), .int .i64 (0), .int .i64 (0), .bool false], true⟩),
  (5, ⟨(.int .u8), false, 1, .int .u8 (0), true⟩),
  (51, ⟨(.pmap 4), false, 1, .nilm, true⟩),
  (52, ⟨.other, false, 1, .nilf, true⟩),
  (60, ⟨(.slice 4 1 1 [.bool]), false, 1, .nils, true⟩),
  (67, ⟨(.struct [⟨0, 1, false⟩, ⟨1, 1, false⟩, ⟨2, 1, false⟩]), true, 3, .agg [.nils, .nilm, .nils], false⟩),
  (65, ⟨(.map .i64 3), false, 1, .nilm, true⟩),
  (54, ⟨(.struct [⟨0, 1, false⟩, ⟨1, 1, false⟩]), true, 2, .agg [.int .i64 (0), .int .i64 (0)], true⟩),
  (9, ⟨.string, false, 1, .str [], true⟩),
  (21, ⟨(.int .i32), false, 1, .int .i32 (0), true⟩)]
theorem tt_mk : mkTT Try.prog ts = some tt := by kernel_rfl
theorem head (w : World) : Calls Try.prog 10 #[] w fun e w' => e = .returned (.bool true) ∧ Below w.heap.size w w' :=
  Go.Proofs.Ytmdobpjkcheneaa.Head.head w
instance facts : Facts := ⟨[], [10], false⟩
instance val : Val := ⟨fun _ => 0⟩
instance sound : Sound := ⟨fun f hf => (List.not_mem_nil hf).elim⟩
theorem tt_ok : TTok Try.prog tt := ttok_mk tt_mk
def body (f : Func) : Code := match f.body with | some c => c | none => .skip
set_option maxRecDepth 100000
theorem wrap_nat (k : Nat) (h : k < 9223372036854775807) : IntKind.i64.wrap ((k : Int) + 1) = ((k + 1 : Nat) : Int) := by
  rw [IntKind.wrap_i64]; omega
theorem wrapS (n : Int) (h : -9000000000000000000 ≤ n ∧ n ≤ 9000000000000000000) : IntKind.i64.wrap n = n := by rw [IntKind.wrap_i64]; omega
abbrev Rws := List (List D)
def tk (l : Rws) (i : Nat) : Int := ((l.getD i []).getD 0 (D.n 0)).int
def tc (l : Rws) (i : Nat) : Int := ((l.getD i []).getD 1 (D.n 0)).int
def ti (l : Rws) (i : Nat) : Int := ((l.getD i []).getD 2 (D.n 0)).int
def tb (l : Rws) (i : Nat) : Bool := ((l.getD i []).getD 3 (D.n 0)).bool
def Ts (k c i : Int) : Prop := (0 ≤ k ∧ k ≤ 11) ∧ (0 ≤ c ∧ c ≤ 100) ∧ (0 ≤ i ∧ i ≤ 1000000)
instance decTs (k c i : Int) : Decidable (Ts k c i) := inferInstanceAs (Decidable (_ ∧ _))
def Tv (l : Rws) : Prop := ((1 ≤ l.length ∧ l.length ≤ 8) ∧ tb l 0 = false) ∧ ∀ i, i < l.length → Ts (tk l i) (tc l i) (ti l i)
instance decTv (l : Rws) : Decidable (Tv l) := inferInstanceAs (Decidable (_ ∧ _))
theorem test_ok (k c i : Int) (b : Bool) : SemF Try.prog 35 [.agg [.int .i64 k, .int .i64 c, .int .i64 i, .test b]] ⟨0, 0, []⟩ (fun v _ => v = .test (decide (Ts k c i)) ∧ nameless v = true) := by
  refine SemF.test ?_
  refine enter tt_ok Try.func35 (nt := 31) (cd := body Try.f35) rfl rfl rfl rfl ?_
  intro _; refine ⟨fun g => ?_, fun g => ?_⟩
  rotate_left
  · have g := of_decide_eq_false (show decide (k ≥ 0) = false from g)
    intro _
    exact ⟨false, .inl rfl, by rw [decide_eq_false (fun h : Ts k c i => g h.1.1)], rfl⟩
  have g0 := of_decide_eq_true (show decide (k ≥ 0) = true from g)
  intro _; refine ⟨fun g => ?_, fun g => ?_⟩
  rotate_left
  · have g := of_decide_eq_false (show decide (k ≤ 11) = false from g)
    intro _
    exact ⟨false, .inl rfl, by rw [decide_eq_false (fun h : Ts k c i => g h.1.2)], rfl⟩
  have g1 := of_decide_eq_true (show decide (k ≤ 11) = true from g)
  intro _; refine ⟨fun g => ?_, fun g => ?_⟩
  rotate_left
  · have g := of_decide_eq_false (show decide (c ≥ 0) = false from g)
    intro _
    exact ⟨false, .inl rfl, by rw [decide_eq_false (fun h : Ts k c i => g h.2.1.1)], rfl⟩
  have g2 := of_decide_eq_true (show decide (c ≥ 0) = true from g)
  intro _; refine ⟨fun g => ?_, fun g => ?_⟩
  rotate_left
  · have g := of_decide_eq_false (show decide (c ≤ 100) = false from g)
    intro _
    exact ⟨false, .inl rfl, by rw [decide_eq_false (fun h : Ts k c i => g h.2.1.2)], rfl⟩
  have g3 := of_decide_eq_true (show decide (c ≤ 100) = true from g)
  intro _; refine ⟨fun g => ?_, fun g => ?_⟩
  rotate_left
  · have g := of_decide_eq_false (show decide (i ≥ 0) = false from g)
    intro _
    exact ⟨false, .inl rfl, by rw [decide_eq_false (fun h : Ts k c i => g h.2.2.1)], rfl⟩
  have g4 := of_decide_eq_true (show decide (i ≥ 0) = true from g)
  intro _
  refine ⟨_, .inr rfl, ?_, rfl⟩
  have e : decide (Ts k c i) = decide (i ≤ 1000000) := decide_eq_decide.2 ⟨fun h => h.2.2.2, fun h => ⟨⟨g0, g1⟩, ⟨g2, g3⟩, ⟨g4, h⟩⟩⟩
  rw [e]
set_option maxHeartbeats 2000000 in
theorem valid_ok (l : Rws) (hl : l.length ≤ 9223372036854775807) : SemF Try.prog 14 [.slc 0 4 0 l.length] ⟨1, 1, [(0, .arr [.int .i64, .int .i64, .int .i64, .bool] .rd (.recs l))]⟩ (fun v _ => v = .test (decide (Tv l)) ∧ nameless v = true) := by
  refine SemF.test ?_
  refine enter tt_ok Try.func14 (nt := 54) (cd := body Try.f14) rfl rfl rfl rfl ?_
  intro _; refine ⟨fun g => ?_, fun g => ?_⟩
  · have g : ((l.length : Int) == 0) = true := g
    intro _
    exact ⟨false, .inl rfl, by rw [decide_eq_false (fun h : Tv l => by have := h.1.1.1; have := eq_of_beq g; omega)], rfl⟩
  have h1 : 1 ≤ l.length := by
    have g : ((l.length : Int) == 0) = false := g
    refine Nat.pos_of_ne_zero fun e => ?_
    rw [e] at g; simp at g
  intro _; refine ⟨fun g => ?_, fun g => ?_⟩
  · have g := of_decide_eq_true (show decide ((l.length : Int) > 8) = true from g)
    intro _
    exact ⟨false, .inl rfl, by rw [decide_eq_false (fun h : Tv l => by have := h.1.1.2; omega)], rfl⟩
  have h8 := of_decide_eq_false (show decide ((l.length : Int) > 8) = false from g)
  intro _; refine ⟨show (0 : Int) ≤ 0 ∧ (0 : Int) < (l.length : Int) by omega, ?_⟩
  intro _; refine ⟨show 0 + (0 : Int).toNat < l.length by show 0 + 0 < l.length; omega, ?_⟩
  intro _; refine ⟨fun g => ?_, fun g => ?_⟩
  · have g : tb l 0 = true := g
    intro _
    exact ⟨false, .inl rfl, by rw [decide_eq_false (fun h : Tv l => by have := h.1.2; rw [g] at this; cases this)], rfl⟩
  have hc : tb l 0 = false := g
  intro _
  refine loop2 tt_ok [21] [] 1 (fun k : { k : Nat // k ≤ l.length ∧ ∀ i, i < k → Ts (tk l i) (tc l i) (ti l i) } => [(21, .int .i64 (k.1 : Nat))]) (fun _ => []) (fun k => l.length - k.1) ⟨0, by omega, fun i h => by omega⟩ ?_
  intro _
  refine ⟨⟨th [] 1, rfl, rfl, rfl, rfl, rfl, rfl, ?_, ?_⟩, ?_⟩
  · (repeat' first | exact trivial | exact rfl | refine And.intro ?_ ?_)
  · (repeat' first | exact trivial | exact rfl | refine And.intro ?_ ?_)
  intro ⟨k, hk, hm⟩
  have z : 0 + k = k := Nat.zero_add k
  intro _; refine ⟨fun g => ?_, fun g => ?_⟩
  rotate_left
  · have hkl := of_decide_eq_false (show decide ((k : Int) < (l.length : Int)) = false from g)
    obtain rfl : k = l.length := by omega
    intro _
    exact ⟨true, .inl rfl, by rw [decide_eq_true (show Tv l from ⟨⟨⟨h1, by omega⟩, hc⟩, hm⟩)], rfl⟩
  have hkl := of_decide_eq_true (show decide ((k : Int) < (l.length : Int)) = true from g)
  have bad : ¬ Ts (tk l k) (tc l k) (ti l k) → decide (Tv l) = false := fun h => decide_eq_false (fun hv => h (hv.2 k (by omega)))
  intro _; refine ⟨show 0 ≤ (k : Int) ∧ (k : Int) < (l.length : Int) by omega, ?_⟩
  intro _; refine ⟨show 0 + (k : Int).toNat < l.length by omega, ?_⟩
  intro _; refine ⟨fun g => ?_, fun g => ?_⟩
  · have g := of_decide_eq_true (show decide (tk l (0 + k) < 0) = true from g)
    rw [z] at g
    intro _
    exact ⟨false, .inl rfl, by rw [bad (fun h => by have := h.1.1; omega)], rfl⟩
  have c0 := of_decide_eq_false (show decide (tk l (0 + k) < 0) = false from g)
  rw [z] at c0
  intro _; refine ⟨fun g => ?_, fun g => ?_⟩
  · have g := of_decide_eq_true (show decide (tk l (0 + k) > 11) = true from g)
    rw [z] at g
    intro _
    exact ⟨false, .inl rfl, by rw [bad (fun h => by have := h.1.2; omega)], rfl⟩
  have c1 := of_decide_eq_false (show decide (tk l (0 + k) > 11) = false from g)
  rw [z] at c1
  intro _; refine ⟨fun g => ?_, fun g => ?_⟩
  · have g := of_decide_eq_true (show decide (tc l (0 + k) < 0) = true from g)
    rw [z] at g
    intro _
    exact ⟨false, .inl rfl, by rw [bad (fun h => by have := h.2.1.1; omega)], rfl⟩
  have c2 := of_decide_eq_false (show decide (tc l (0 + k) < 0) = false from g)
  rw [z] at c2
  intro _; refine ⟨fun g => ?_, fun g => ?_⟩
  · have g := of_decide_eq_true (show decide (tc l (0 + k) > 100) = true from g)
    rw [z] at g
    intro _
    exact ⟨false, .inl rfl, by rw [bad (fun h => by have := h.2.1.2; omega)], rfl⟩
  have c3 := of_decide_eq_false (show decide (tc l (0 + k) > 100) = false from g)
  rw [z] at c3
  intro _; refine ⟨fun g => ?_, fun g => ?_⟩
  · have g := of_decide_eq_true (show decide (ti l (0 + k) < 0) = true from g)
    rw [z] at g
    intro _
    exact ⟨false, .inl rfl, by rw [bad (fun h => by have := h.2.2.1; omega)], rfl⟩
  have c4 := of_decide_eq_false (show decide (ti l (0 + k) < 0) = false from g)
  rw [z] at c4
  intro _; refine ⟨fun g => ?_, fun g => ?_⟩
  · have g := of_decide_eq_true (show decide (ti l (0 + k) > 1000000) = true from g)
    rw [z] at g
    intro _
    exact ⟨false, .inl rfl, by rw [bad (fun h => by have := h.2.2.2; omega)], rfl⟩
  have c5 := of_decide_eq_false (show decide (ti l (0 + k) > 1000000) = false from g)
  rw [z] at c5
  refine ⟨⟨k + 1, by omega, fun i hi => ?_⟩, by show l.length - (k + 1) < l.length - k; omega, th [] 1, rfl, rfl, rfl, rfl, rfl, rfl, ?_, ?_⟩
  · by_cases e : i = k
    · subst e; exact ⟨⟨by omega, by omega⟩, ⟨by omega, by omega⟩, ⟨by omega, by omega⟩⟩
    · exact hm i (by omega)
  · (repeat' first | exact trivial | exact rfl | refine And.intro ?_ ?_)
    exact (wrap_nat k (by omega)).symm
  · (repeat' first | exact trivial | exact rfl | refine And.intro ?_ ?_)
set_option maxHeartbeats 2000000 in
theorem rvalid_ok (l : Rws) (hl : l.length ≤ 9223372036854775807) : SemF Try.prog 15 [.slc 0 4 0 l.length] ⟨1, 1, [(0, .arr [.int .i64, .int .i64, .int .i64, .bool] .rd (.recs l))]⟩ (fun v _ => v = .test (decide (Tv l)) ∧ nameless v = true) := by
  refine SemF.test ?_
  refine enter tt_ok Try.func15 (nt := 32) (cd := body Try.f15) rfl rfl rfl rfl ?_
  intro _; refine ⟨fun g => ?_, fun g => ?_⟩
  · have g : (l.length : Int) < 1 := of_decide_eq_true (show decide ((l.length : Int) < 1) = true from g)
    intro _
    exact ⟨false, .inl rfl, by rw [decide_eq_false (fun h : Tv l => by have := h.1.1.1; omega)], rfl⟩
  have h1 : 1 ≤ l.length := by
    have g := of_decide_eq_false (show decide ((l.length : Int) < 1) = false from g)
    omega
  intro _; refine ⟨fun g => ?_, fun g => ?_⟩
  · have g := of_decide_eq_true (show decide ((l.length : Int) > 8) = true from g)
    intro _
    exact ⟨false, .inl rfl, by rw [decide_eq_false (fun h : Tv l => by have := h.1.1.2; omega)], rfl⟩
  have h8 := of_decide_eq_false (show decide ((l.length : Int) > 8) = false from g)
  intro _; refine ⟨show (0 : Int) ≤ 0 ∧ (0 : Int) < (l.length : Int) by omega, ?_⟩
  intro _; refine ⟨show 0 + (0 : Int).toNat < l.length by show 0 + 0 < l.length; omega, ?_⟩
  intro _; refine ⟨fun g => ?_, fun g => ?_⟩
  · have g : tb l 0 = true := g
    intro _
    exact ⟨false, .inl rfl, by rw [decide_eq_false (fun h : Tv l => by have := h.1.2; rw [g] at this; cases this)], rfl⟩
  have hc : tb l 0 = false := g
  intro _
  refine loop2 tt_ok [3] [] 1 (fun k : { k : Nat // k ≤ l.length ∧ ∀ i, i < k → Ts (tk l i) (tc l i) (ti l i) } => [(3, .int .i64 (k.1 : Nat))]) (fun _ => []) (fun k => l.length - k.1) ⟨0, by omega, fun i h => by omega⟩ ?_
  intro _
  refine ⟨⟨th [] 1, rfl, rfl, rfl, rfl, rfl, rfl, ?_, ?_⟩, ?_⟩
  · (repeat' first | exact trivial | exact rfl | refine And.intro ?_ ?_)
  · (repeat' first | exact trivial | exact rfl | refine And.intro ?_ ?_)
  intro ⟨k, hk, hm⟩
  have z : 0 + k = k := Nat.zero_add k
  intro _; refine ⟨fun g => ?_, fun g => ?_⟩
  rotate_left
  · have hkl := of_decide_eq_false (show decide ((k : Int) < (l.length : Int)) = false from g)
    obtain rfl : k = l.length := by omega
    intro _
    exact ⟨true, .inl rfl, by rw [decide_eq_true (show Tv l from ⟨⟨⟨h1, by omega⟩, hc⟩, hm⟩)], rfl⟩
  have hkl := of_decide_eq_true (show decide ((k : Int) < (l.length : Int)) = true from g)
  have bad : ¬ Ts (tk l k) (tc l k) (ti l k) → decide (Tv l) = false := fun h => decide_eq_false (fun hv => h (hv.2 k (by omega)))
  intro _; refine ⟨show 0 ≤ (k : Int) ∧ (k : Int) < (l.length : Int) by omega, ?_⟩
  intro _; refine ⟨show 0 + (k : Int).toNat < l.length by omega, ?_⟩
  intro _
  refine call_pure [] (test_ok (tk l (0 + k)) (tc l (0 + k)) (ti l (0 + k)) (tb l (0 + k))) rfl rfl rfl ?_ ?_ ?_
  · (repeat' first | exact trivial | exact rfl | refine And.intro ?_ ?_)
  · (repeat' first | exact trivial | exact rfl | refine And.intro ?_ ?_)
  intro v hv _
  subst hv
  intro _; refine ⟨fun g => ?_, fun g => ?_⟩
  · have g : (!decide (Ts (tk l (0 + k)) (tc l (0 + k)) (ti l (0 + k)))) = true := g
    rw [z, Bool.not_eq_true'] at g
    have g := of_decide_eq_false g
    intro _
    exact ⟨false, .inl rfl, by rw [bad g], rfl⟩
  have g : (!decide (Ts (tk l (0 + k)) (tc l (0 + k)) (ti l (0 + k)))) = false := g
  rw [z, Bool.not_eq_false'] at g
  have g := of_decide_eq_true g
  refine ⟨⟨k + 1, by omega, fun i hi => ?_⟩, by show l.length - (k + 1) < l.length - k; omega, th [] 1, rfl, rfl, rfl, rfl, rfl, rfl, ?_, ?_⟩
  · by_cases e : i = k
    · subst e; exact g
    · exact hm i (by omega)
  · (repeat' first | exact trivial | exact rfl | refine And.intro ?_ ?_)
    exact (wrap_nat k (by omega)).symm
  · (repeat' first | exact trivial | exact rfl | refine And.intro ?_ ?_)
def wt (l : Rws) : Nat → Int
  | 0 => 0
  | k + 1 => wt l k + (if ti l k ≠ 0 then 10000 else 0) + (if tc l k ≠ 0 then 100 else 0) + (if tk l k ≠ 0 then 1 else 0)
theorem wt_bd (l : Rws) : ∀ k, 0 ≤ wt l k ∧ wt l k ≤ 10101 * (k : Int)
  | 0 => ⟨Int.le_refl _, by show (0 : Int) ≤ 10101 * 0; omega⟩
  | k + 1 => by
    have := wt_bd l k
    unfold wt
    split <;> split <;> split <;> omega
def WQ (l : Rws) : V := if Tv l then .tup [.int .i64 (wt l l.length), .int .i64 0] else .tup [.int .i64 0, .int .i64 1]
theorem WQ_ok {l : Rws} (e : Tv l) : WQ l = .tup [.int .i64 (wt l l.length), .int .i64 0] := if_pos e
theorem WQ_bad {l : Rws} (e : ¬ Tv l) : WQ l = .tup [.int .i64 0, .int .i64 1] := if_neg e
set_option maxHeartbeats 2000000 in
theorem Weight_ok (l : Rws) (hl : l.length ≤ 9223372036854775807) : SemF Try.prog 19 [.slc 0 4 0 l.length] ⟨1, 1, [(0, .arr [.int .i64, .int .i64, .int .i64, .bool] .rd (.recs l))]⟩ (fun v _ => v = WQ l ∧ nameless v = true) := by
  refine enter tt_ok Try.func19 (nt := 33) (cd := body Try.f19) rfl rfl rfl rfl ?_
  intro _
  refine call_pure [(0, some 0)] (valid_ok l hl) rfl rfl rfl ?_ ?_ ?_
  · (repeat' first | exact trivial | exact rfl | refine And.intro ?_ ?_)
  · (repeat' first | exact trivial | exact rfl | refine And.intro ?_ ?_)
  intro v hv _
  subst hv
  intro _; refine ⟨fun g => ?_, fun g => ?_⟩
  · have g : (!decide (Tv l)) = true := g
    rw [Bool.not_eq_true'] at g
    have g := of_decide_eq_false g
    intro _
    exact ⟨(WQ_bad g).symm, rfl⟩
  have g : (!decide (Tv l)) = false := g
  rw [Bool.not_eq_false'] at g
  have hV := of_decide_eq_true g
  have h8 := hV.1.1.2
  intro _
  refine loop2 tt_ok [12, 4] [] 1 (fun k : { k : Nat // k ≤ l.length } => [(12, .int .i64 (k.1 : Nat)), (4, .int .i64 (wt l k.1))]) (fun _ => []) (fun k => l.length - k.1) ⟨0, by omega⟩ ?_
  intro _
  refine ⟨⟨th [] 1, rfl, rfl, rfl, rfl, rfl, rfl, ?_, ?_⟩, ?_⟩
  · (repeat' first | exact trivial | exact rfl | refine And.intro ?_ ?_)
  · (repeat' first | exact trivial | exact rfl | refine And.intro ?_ ?_)
  intro ⟨k, hk⟩
  have z : 0 + k = k := Nat.zero_add k
  have hb := wt_bd l k
  intro _; refine ⟨fun g => ?_, fun g => ?_⟩
  rotate_left
  · have hkl := of_decide_eq_false (show decide ((k : Int) < (l.length : Int)) = false from g)
    obtain rfl : k = l.length := by omega
    intro _
    exact ⟨(WQ_ok hV).symm, rfl⟩
  have hkl := of_decide_eq_true (show decide ((k : Int) < (l.length : Int)) = true from g)
  intro _; refine ⟨show 0 ≤ (k : Int) ∧ (k : Int) < (l.length : Int) by omega, ?_⟩
  intro _; refine ⟨show 0 + (k : Int).toNat < l.length by omega, ?_⟩
  intro _; refine ⟨fun g => ?_, fun g => ?_⟩
  · have q0 : ti l k ≠ 0 := by
      have g : (ti l (0 + k) != 0) = true := g
      rw [z] at g
      simpa using g
    intro _; refine ⟨fun g => ?_, fun g => ?_⟩
    · have q1 : tc l k ≠ 0 := by
        have g : (tc l (0 + k) != 0) = true := g
        rw [z] at g
        simpa using g
      intro _; refine ⟨fun g => ?_, fun g => ?_⟩
      · have q2 : tk l k ≠ 0 := by
          have g : (tk l (0 + k) != 0) = true := g
          rw [z] at g
          simpa using g
        refine ⟨⟨k + 1, by omega⟩, by show l.length - (k + 1) < l.length - k; omega, th [] 1, rfl, rfl, rfl, rfl, rfl, rfl, ?_, ?_⟩
        · (repeat' first | exact trivial | exact rfl | refine And.intro ?_ ?_)
          · exact (wrap_nat k (by omega)).symm
          · show wt l k + (if ti l k ≠ 0 then 10000 else 0) + (if tc l k ≠ 0 then 100 else 0) + (if tk l k ≠ 0 then 1 else 0) = IntKind.i64.wrap (IntKind.i64.wrap (IntKind.i64.wrap (wt l k + 10000) + 100) + 1)
            rw [if_pos q0, if_pos q1, if_pos q2]
            rw [wrapS (wt l k + 10000) ⟨by omega, by omega⟩, wrapS (wt l k + 10000 + 100) ⟨by omega, by omega⟩, wrapS (wt l k + 10000 + 100 + 1) ⟨by omega, by omega⟩]
            try omega
        · (repeat' first | exact trivial | exact rfl | refine And.intro ?_ ?_)
      · have q2 : ¬ tk l k ≠ 0 := by
          have g : (tk l (0 + k) != 0) = false := g
          rw [z] at g
          simpa using g
        refine ⟨⟨k + 1, by omega⟩, by show l.length - (k + 1) < l.length - k; omega, th [] 1, rfl, rfl, rfl, rfl, rfl, rfl, ?_, ?_⟩
        · (repeat' first | exact trivial | exact rfl | refine And.intro ?_ ?_)
          · exact (wrap_nat k (by omega)).symm
          · show wt l k + (if ti l k ≠ 0 then 10000 else 0) + (if tc l k ≠ 0 then 100 else 0) + (if tk l k ≠ 0 then 1 else 0) = IntKind.i64.wrap (IntKind.i64.wrap (wt l k + 10000) + 100)
            rw [if_pos q0, if_pos q1, if_neg q2]
            rw [wrapS (wt l k + 10000) ⟨by omega, by omega⟩, wrapS (wt l k + 10000 + 100) ⟨by omega, by omega⟩]
            try omega
        · (repeat' first | exact trivial | exact rfl | refine And.intro ?_ ?_)
    · have q1 : ¬ tc l k ≠ 0 := by
        have g : (tc l (0 + k) != 0) = false := g
        rw [z] at g
        simpa using g
      intro _; refine ⟨fun g => ?_, fun g => ?_⟩
      · have q2 : tk l k ≠ 0 := by
          have g : (tk l (0 + k) != 0) = true := g
          rw [z] at g
          simpa using g
        refine ⟨⟨k + 1, by omega⟩, by show l.length - (k + 1) < l.length - k; omega, th [] 1, rfl, rfl, rfl, rfl, rfl, rfl, ?_, ?_⟩
        · (repeat' first | exact trivial | exact rfl | refine And.intro ?_ ?_)
          · exact (wrap_nat k (by omega)).symm
          · show wt l k + (if ti l k ≠ 0 then 10000 else 0) + (if tc l k ≠ 0 then 100 else 0) + (if tk l k ≠ 0 then 1 else 0) = IntKind.i64.wrap (IntKind.i64.wrap (wt l k + 10000) + 1)
            rw [if_pos q0, if_neg q1, if_pos q2]
            rw [wrapS (wt l k + 10000) ⟨by omega, by omega⟩, wrapS (wt l k + 10000 + 1) ⟨by omega, by omega⟩]
            try omega
        · (repeat' first | exact trivial | exact rfl | refine And.intro ?_ ?_)
      · have q2 : ¬ tk l k ≠ 0 := by
          have g : (tk l (0 + k) != 0) = false := g
          rw [z] at g
          simpa using g
        refine ⟨⟨k + 1, by omega⟩, by show l.length - (k + 1) < l.length - k; omega, th [] 1, rfl, rfl, rfl, rfl, rfl, rfl, ?_, ?_⟩
        · (repeat' first | exact trivial | exact rfl | refine And.intro ?_ ?_)
          · exact (wrap_nat k (by omega)).symm
          · show wt l k + (if ti l k ≠ 0 then 10000 else 0) + (if tc l k ≠ 0 then 100 else 0) + (if tk l k ≠ 0 then 1 else 0) = IntKind.i64.wrap (wt l k + 10000)
            rw [if_pos q0, if_neg q1, if_neg q2]
            rw [wrapS (wt l k + 10000) ⟨by omega, by omega⟩]
            try omega
        · (repeat' first | exact trivial | exact rfl | refine And.intro ?_ ?_)
  · have q0 : ¬ ti l k ≠ 0 := by
      have g : (ti l (0 + k) != 0) = false := g
      rw [z] at g
      simpa using g
    intro _; refine ⟨fun g => ?_, fun g => ?_⟩
    · have q1 : tc l k ≠ 0 := by
        have g : (tc l (0 + k) != 0) = true := g
        rw [z] at g
        simpa using g
      intro _; refine ⟨fun g => ?_, fun g => ?_⟩
      · have q2 : tk l k ≠ 0 := by
          have g : (tk l (0 + k) != 0) = true := g
          rw [z] at g
          simpa using g
        refine ⟨⟨k + 1, by omega⟩, by show l.length - (k + 1) < l.length - k; omega, th [] 1, rfl, rfl, rfl, rfl, rfl, rfl, ?_, ?_⟩
        · (repeat' first | exact trivial | exact rfl | refine And.intro ?_ ?_)
          · exact (wrap_nat k (by omega)).symm
          · show wt l k + (if ti l k ≠ 0 then 10000 else 0) + (if tc l k ≠ 0 then 100 else 0) + (if tk l k ≠ 0 then 1 else 0) = IntKind.i64.wrap (IntKind.i64.wrap (wt l k + 100) + 1)
            rw [if_neg q0, if_pos q1, if_pos q2]
            rw [wrapS (wt l k + 100) ⟨by omega, by omega⟩, wrapS (wt l k + 100 + 1) ⟨by omega, by omega⟩]
            try omega
        · (repeat' first | exact trivial | exact rfl | refine And.intro ?_ ?_)
      · have q2 : ¬ tk l k ≠ 0 := by
          have g : (tk l (0 + k) != 0) = false := g
          rw [z] at g
          simpa using g
        refine ⟨⟨k + 1, by omega⟩, by show l.length - (k + 1) < l.length - k; omega, th [] 1, rfl, rfl, rfl, rfl, rfl, rfl, ?_, ?_⟩
        · (repeat' first | exact trivial | exact rfl | refine And.intro ?_ ?_)
          · exact (wrap_nat k (by omega)).symm
          · show wt l k + (if ti l k ≠ 0 then 10000 else 0) + (if tc l k ≠ 0 then 100 else 0) + (if tk l k ≠ 0 then 1 else 0) = IntKind.i64.wrap (wt l k + 100)
            rw [if_neg q0, if_pos q1, if_neg q2]
            rw [wrapS (wt l k + 100) ⟨by omega, by omega⟩]
            try omega
        · (repeat' first | exact trivial | exact rfl | refine And.intro ?_ ?_)
    · have q1 : ¬ tc l k ≠ 0 := by
        have g : (tc l (0 + k) != 0) = false := g
        rw [z] at g
        simpa using g
      intro _; refine ⟨fun g => ?_, fun g => ?_⟩
      · have q2 : tk l k ≠ 0 := by
          have g : (tk l (0 + k) != 0) = true := g
          rw [z] at g
          simpa using g
        refine ⟨⟨k + 1, by omega⟩, by show l.length - (k + 1) < l.length - k; omega, th [] 1, rfl, rfl, rfl, rfl, rfl, rfl, ?_, ?_⟩
        · (repeat' first | exact trivial | exact rfl | refine And.intro ?_ ?_)
          · exact (wrap_nat k (by omega)).symm
          · show wt l k + (if ti l k ≠ 0 then 10000 else 0) + (if tc l k ≠ 0 then 100 else 0) + (if tk l k ≠ 0 then 1 else 0) = IntKind.i64.wrap (wt l k + 1)
            rw [if_neg q0, if_neg q1, if_pos q2]
            rw [wrapS (wt l k + 1) ⟨by omega, by omega⟩]
            try omega
        · (repeat' first | exact trivial | exact rfl | refine And.intro ?_ ?_)
      · have q2 : ¬ tk l k ≠ 0 := by
          have g : (tk l (0 + k) != 0) = false := g
          rw [z] at g
          simpa using g
        refine ⟨⟨k + 1, by omega⟩, by show l.length - (k + 1) < l.length - k; omega, th [] 1, rfl, rfl, rfl, rfl, rfl, rfl, ?_, ?_⟩
        · (repeat' first | exact trivial | exact rfl | refine And.intro ?_ ?_)
          · exact (wrap_nat k (by omega)).symm
          · show wt l k + (if ti l k ≠ 0 then 10000 else 0) + (if tc l k ≠ 0 then 100 else 0) + (if tk l k ≠ 0 then 1 else 0) = wt l k
            rw [if_neg q0, if_neg q1, if_neg q2]
            omega
        · (repeat' first | exact trivial | exact rfl | refine And.intro ?_ ?_)
theorem app_tst {a b : Rws} (i : Nat) : (i < a.length → (a ++ b).getD i [] = a.getD i []) ∧ (a.length ≤ i → (a ++ b).getD i [] = b.getD (i - a.length) []) := by
  constructor
  · intro h
    rw [List.getD_eq_getElem?_getD, List.getD_eq_getElem?_getD, List.getElem?_append_left h]
  · intro h
    rw [List.getD_eq_getElem?_getD, List.getD_eq_getElem?_getD, List.getElem?_append_right h]
theorem wt_left {a b : Rws} : ∀ k, k ≤ a.length → wt (a ++ b) k = wt a k
  | 0, _ => rfl
  | k + 1, h => by
    unfold wt
    rw [wt_left k (by omega)]
    unfold ti tc tk
    rw [(app_tst k).1 (by omega)]
theorem wt_right {a b : Rws} : ∀ k, wt (a ++ b) (a.length + k) = wt a a.length + wt b k
  | 0 => by
    rw [Nat.add_zero, wt_left _ (Nat.le_refl _)]
    show wt a a.length = wt a a.length + 0
    rw [Int.add_zero]
  | k + 1 => by
    show wt (a ++ b) (a.length + k) + (if ti (a ++ b) (a.length + k) ≠ 0 then 10000 else 0) + (if tc (a ++ b) (a.length + k) ≠ 0 then 100 else 0) + (if tk (a ++ b) (a.length + k) ≠ 0 then 1 else 0) = wt a a.length + (wt b k + (if ti b k ≠ 0 then 10000 else 0) + (if tc b k ≠ 0 then 100 else 0) + (if tk b k ≠ 0 then 1 else 0))
    rw [wt_right k]
    have e : (a ++ b).getD (a.length + k) [] = b.getD k [] := by rw [(app_tst (a.length + k)).2 (by omega), show a.length + k - a.length = k by omega]
    have e1 : ti (a ++ b) (a.length + k) = ti b k := by unfold ti; rw [e]
    have e2 : tc (a ++ b) (a.length + k) = tc b k := by unfold tc; rw [e]
    have e3 : tk (a ++ b) (a.length + k) = tk b k := by unfold tk; rw [e]
    rw [e1, e2, e3]
    omega
theorem Tv_app {a b : Rws} (ha : Tv a) (hb : Tv b) (h : a.length + b.length ≤ 8) : Tv (a ++ b) := by
  refine ⟨⟨⟨by rw [List.length_append]; have := ha.1.1.1; omega, by rw [List.length_append]; exact h⟩, ?_⟩, fun i hi => ?_⟩
  · have := ha.1.2
    unfold tb at this ⊢
    rw [(app_tst 0).1 ha.1.1.1]; exact this
  · rw [List.length_append] at hi
    unfold tk tc ti
    by_cases c : i < a.length
    · rw [(app_tst i).1 c]; exact ha.2 i c
    · rw [(app_tst i).2 (by omega)]; exact hb.2 (i - a.length) (by omega)
def cl (n : Int) : Int := if 97 ≤ n ∧ n ≤ 122 then 1 else if 65 ≤ n ∧ n ≤ 90 then 2 else if 48 ≤ n ∧ n ≤ 57 then 3 else if n = 32 then 4 else if n = 126 then 6 else if 32 < n ∧ n < 126 then 5 else 0
theorem cl_high {n : Int} (h : 128 ≤ n) : cl n = 0 := by unfold cl; repeat' split
                                                         all_goals omega
theorem rclass_ok (n : Int) : SemF Try.prog 51 [.int .u8 n] ⟨0, 0, []⟩ (fun v _ => v = .int .i64 (cl n) ∧ nameless v = true) := by
  refine enter tt_ok Try.func51 (nt := 31) (cd := body Try.f51) rfl rfl rfl rfl ?_
  intro _; refine ⟨fun g => ?_, fun g => ?_⟩
  · have g := of_decide_eq_true (show decide (n ≥ 97) = true from g)
    intro _; refine ⟨fun g => ?_, fun g => ?_⟩
    · have g := of_decide_eq_true (show decide (n ≤ 122) = true from g)
      intro _
      exact ⟨by rw [show cl n = 1 by (unfold cl; repeat' split) <;> omega], rfl⟩
    · have g := of_decide_eq_false (show decide (n ≤ 122) = false from g)
      intro _; refine ⟨fun g => ?_, fun g => ?_⟩
      · have g := of_decide_eq_true (show decide (n ≥ 65) = true from g)
        intro _; refine ⟨fun g => ?_, fun g => ?_⟩
        · have g := of_decide_eq_true (show decide (n ≤ 90) = true from g)
          intro _
          exact ⟨by rw [show cl n = 2 by (unfold cl; repeat' split) <;> omega], rfl⟩
        · have g := of_decide_eq_false (show decide (n ≤ 90) = false from g)
          intro _; refine ⟨fun g => ?_, fun g => ?_⟩
          · have g := of_decide_eq_true (show decide (n ≥ 48) = true from g)
            intro _; refine ⟨fun g => ?_, fun g => ?_⟩
            · have g := of_decide_eq_true (show decide (n ≤ 57) = true from g)
              intro _
              exact ⟨by rw [show cl n = 3 by (unfold cl; repeat' split) <;> omega], rfl⟩
            · have g := of_decide_eq_false (show decide (n ≤ 57) = false from g)
              intro _; refine ⟨fun g => ?_, fun g => ?_⟩
              · have g : (n == 32) = true := g
                have g : n = 32 := by simpa using g
                intro _
                exact ⟨by rw [show cl n = 4 by (unfold cl; repeat' split) <;> omega], rfl⟩
              · have g : (n == 32) = false := g
                have g : ¬ n = 32 := by simpa using g
                intro _; refine ⟨fun g => ?_, fun g => ?_⟩
                · have g : (n == 126) = true := g
                  have g : n = 126 := by simpa using g
                  intro _
                  exact ⟨by rw [show cl n = 6 by (unfold cl; repeat' split) <;> omega], rfl⟩
                · have g : (n == 126) = false := g
                  have g : ¬ n = 126 := by simpa using g
                  intro _; refine ⟨fun g => ?_, fun g => ?_⟩
                  · have g := of_decide_eq_true (show decide (n > 32) = true from g)
                    intro _; refine ⟨fun g => ?_, fun g => ?_⟩
                    · have g := of_decide_eq_true (show decide (n < 126) = true from g)
                      intro _
                      exact ⟨by rw [show cl n = 5 by (unfold cl; repeat' split) <;> omega], rfl⟩
                    · have g := of_decide_eq_false (show decide (n < 126) = false from g)
                      intro _
                      exact ⟨by rw [show cl n = 0 by (unfold cl; repeat' split) <;> omega], rfl⟩
                  · have g := of_decide_eq_false (show decide (n > 32) = false from g)
                    intro _
                    exact ⟨by rw [show cl n = 0 by (unfold cl; repeat' split) <;> omega], rfl⟩
          · have g := of_decide_eq_false (show decide (n ≥ 48) = false from g)
            intro _; refine ⟨fun g => ?_, fun g => ?_⟩
            · have g : (n == 32) = true := g
              have g : n = 32 := by simpa using g
              intro _
              exact ⟨by rw [show cl n = 4 by (unfold cl; repeat' split) <;> omega], rfl⟩
            · have g : (n == 32) = false := g
              have g : ¬ n = 32 := by simpa using g
              intro _; refine ⟨fun g => ?_, fun g => ?_⟩
              · have g : (n == 126) = true := g
                have g : n = 126 := by simpa using g
                intro _
                exact ⟨by rw [show cl n = 6 by (unfold cl; repeat' split) <;> omega], rfl⟩
              · have g : (n == 126) = false := g
                have g : ¬ n = 126 := by simpa using g
                intro _; refine ⟨fun g => ?_, fun g => ?_⟩
                · have g := of_decide_eq_true (show decide (n > 32) = true from g)
                  intro _; refine ⟨fun g => ?_, fun g => ?_⟩
                  · have g := of_decide_eq_true (show decide (n < 126) = true from g)
                    intro _
                    exact ⟨by rw [show cl n = 5 by (unfold cl; repeat' split) <;> omega], rfl⟩
                  · have g := of_decide_eq_false (show decide (n < 126) = false from g)
                    intro _
                    exact ⟨by rw [show cl n = 0 by (unfold cl; repeat' split) <;> omega], rfl⟩
                · have g := of_decide_eq_false (show decide (n > 32) = false from g)
                  intro _
                  exact ⟨by rw [show cl n = 0 by (unfold cl; repeat' split) <;> omega], rfl⟩
      · have g := of_decide_eq_false (show decide (n ≥ 65) = false from g)
        intro _; refine ⟨fun g => ?_, fun g => ?_⟩
        · have g := of_decide_eq_true (show decide (n ≥ 48) = true from g)
          intro _; refine ⟨fun g => ?_, fun g => ?_⟩
          · have g := of_decide_eq_true (show decide (n ≤ 57) = true from g)
            intro _
            exact ⟨by rw [show cl n = 3 by (unfold cl; repeat' split) <;> omega], rfl⟩
          · have g := of_decide_eq_false (show decide (n ≤ 57) = false from g)
            intro _; refine ⟨fun g => ?_, fun g => ?_⟩
            · have g : (n == 32) = true := g
              have g : n = 32 := by simpa using g
              intro _
              exact ⟨by rw [show cl n = 4 by (unfold cl; repeat' split) <;> omega], rfl⟩
            · have g : (n == 32) = false := g
              have g : ¬ n = 32 := by simpa using g
              intro _; refine ⟨fun g => ?_, fun g => ?_⟩
              · have g : (n == 126) = true := g
                have g : n = 126 := by simpa using g
                intro _
                exact ⟨by rw [show cl n = 6 by (unfold cl; repeat' split) <;> omega], rfl⟩
              · have g : (n == 126) = false := g
                have g : ¬ n = 126 := by simpa using g
                intro _; refine ⟨fun g => ?_, fun g => ?_⟩
                · have g := of_decide_eq_true (show decide (n > 32) = true from g)
                  intro _; refine ⟨fun g => ?_, fun g => ?_⟩
                  · have g := of_decide_eq_true (show decide (n < 126) = true from g)
                    intro _
                    exact ⟨by rw [show cl n = 5 by (unfold cl; repeat' split) <;> omega], rfl⟩
                  · have g := of_decide_eq_false (show decide (n < 126) = false from g)
                    intro _
                    exact ⟨by rw [show cl n = 0 by (unfold cl; repeat' split) <;> omega], rfl⟩
                · have g := of_decide_eq_false (show decide (n > 32) = false from g)
                  intro _
                  exact ⟨by rw [show cl n = 0 by (unfold cl; repeat' split) <;> omega], rfl⟩
        · have g := of_decide_eq_false (show decide (n ≥ 48) = false from g)
          intro _; refine ⟨fun g => ?_, fun g => ?_⟩
          · have g : (n == 32) = true := g
            have g : n = 32 := by simpa using g
            intro _
            exact ⟨by rw [show cl n = 4 by (unfold cl; repeat' split) <;> omega], rfl⟩
          · have g : (n == 32) = false := g
            have g : ¬ n = 32 := by simpa using g
            intro _; refine ⟨fun g => ?_, fun g => ?_⟩
            · have g : (n == 126) = true := g
              have g : n = 126 := by simpa using g
              intro _
              exact ⟨by rw [show cl n = 6 by (unfold cl; repeat' split) <;> omega], rfl⟩
            · have g : (n == 126) = false := g
              have g : ¬ n = 126 := by simpa using g
              intro _; refine ⟨fun g => ?_, fun g => ?_⟩
              · have g := of_decide_eq_true (show decide (n > 32) = true from g)
                intro _; refine ⟨fun g => ?_, fun g => ?_⟩
                · have g := of_decide_eq_true (show decide (n < 126) = true from g)
                  intro _
                  exact ⟨by rw [show cl n = 5 by (unfold cl; repeat' split) <;> omega], rfl⟩
                · have g := of_decide_eq_false (show decide (n < 126) = false from g)
                  intro _
                  exact ⟨by rw [show cl n = 0 by (unfold cl; repeat' split) <;> omega], rfl⟩
              · have g := of_decide_eq_false (show decide (n > 32) = false from g)
                intro _
                exact ⟨by rw [show cl n = 0 by (unfold cl; repeat' split) <;> omega], rfl⟩
  · have g := of_decide_eq_false (show decide (n ≥ 97) = false from g)
    intro _; refine ⟨fun g => ?_, fun g => ?_⟩
    · have g := of_decide_eq_true (show decide (n ≥ 65) = true from g)
      intro _; refine ⟨fun g => ?_, fun g => ?_⟩
      · have g := of_decide_eq_true (show decide (n ≤ 90) = true from g)
        intro _
        exact ⟨by rw [show cl n = 2 by (unfold cl; repeat' split) <;> omega], rfl⟩
      · have g := of_decide_eq_false (show decide (n ≤ 90) = false from g)
        intro _; refine ⟨fun g => ?_, fun g => ?_⟩
        · have g := of_decide_eq_true (show decide (n ≥ 48) = true from g)
          intro _; refine ⟨fun g => ?_, fun g => ?_⟩
          · have g := of_decide_eq_true (show decide (n ≤ 57) = true from g)
            intro _
            exact ⟨by rw [show cl n = 3 by (unfold cl; repeat' split) <;> omega], rfl⟩
          · have g := of_decide_eq_false (show decide (n ≤ 57) = false from g)
            intro _; refine ⟨fun g => ?_, fun g => ?_⟩
            · have g : (n == 32) = true := g
              have g : n = 32 := by simpa using g
              intro _
              exact ⟨by rw [show cl n = 4 by (unfold cl; repeat' split) <;> omega], rfl⟩
            · have g : (n == 32) = false := g
              have g : ¬ n = 32 := by simpa using g
              intro _; refine ⟨fun g => ?_, fun g => ?_⟩
              · have g : (n == 126) = true := g
                have g : n = 126 := by simpa using g
                intro _
                exact ⟨by rw [show cl n = 6 by (unfold cl; repeat' split) <;> omega], rfl⟩
              · have g : (n == 126) = false := g
                have g : ¬ n = 126 := by simpa using g
                intro _; refine ⟨fun g => ?_, fun g => ?_⟩
                · have g := of_decide_eq_true (show decide (n > 32) = true from g)
                  intro _; refine ⟨fun g => ?_, fun g => ?_⟩
                  · have g := of_decide_eq_true (show decide (n < 126) = true from g)
                    intro _
                    exact ⟨by rw [show cl n = 5 by (unfold cl; repeat' split) <;> omega], rfl⟩
                  · have g := of_decide_eq_false (show decide (n < 126) = false from g)
                    intro _
                    exact ⟨by rw [show cl n = 0 by (unfold cl; repeat' split) <;> omega], rfl⟩
                · have g := of_decide_eq_false (show decide (n > 32) = false from g)
                  intro _
                  exact ⟨by rw [show cl n = 0 by (unfold cl; repeat' split) <;> omega], rfl⟩
        · have g := of_decide_eq_false (show decide (n ≥ 48) = false from g)
          intro _; refine ⟨fun g => ?_, fun g => ?_⟩
          · have g : (n == 32) = true := g
            have g : n = 32 := by simpa using g
            intro _
            exact ⟨by rw [show cl n = 4 by (unfold cl; repeat' split) <;> omega], rfl⟩
          · have g : (n == 32) = false := g
            have g : ¬ n = 32 := by simpa using g
            intro _; refine ⟨fun g => ?_, fun g => ?_⟩
            · have g : (n == 126) = true := g
              have g : n = 126 := by simpa using g
              intro _
              exact ⟨by rw [show cl n = 6 by (unfold cl; repeat' split) <;> omega], rfl⟩
            · have g : (n == 126) = false := g
              have g : ¬ n = 126 := by simpa using g
              intro _; refine ⟨fun g => ?_, fun g => ?_⟩
              · have g := of_decide_eq_true (show decide (n > 32) = true from g)
                intro _; refine ⟨fun g => ?_, fun g => ?_⟩
                · have g := of_decide_eq_true (show decide (n < 126) = true from g)
                  intro _
                  exact ⟨by rw [show cl n = 5 by (unfold cl; repeat' split) <;> omega], rfl⟩
                · have g := of_decide_eq_false (show decide (n < 126) = false from g)
                  intro _
                  exact ⟨by rw [show cl n = 0 by (unfold cl; repeat' split) <;> omega], rfl⟩
              · have g := of_decide_eq_false (show decide (n > 32) = false from g)
                intro _
                exact ⟨by rw [show cl n = 0 by (unfold cl; repeat' split) <;> omega], rfl⟩
    · have g := of_decide_eq_false (show decide (n ≥ 65) = false from g)
      intro _; refine ⟨fun g => ?_, fun g => ?_⟩
      · have g := of_decide_eq_true (show decide (n ≥ 48) = true from g)
        intro _; refine ⟨fun g => ?_, fun g => ?_⟩
        · have g := of_decide_eq_true (show decide (n ≤ 57) = true from g)
          intro _
          exact ⟨by rw [show cl n = 3 by (unfold cl; repeat' split) <;> omega], rfl⟩
        · have g := of_decide_eq_false (show decide (n ≤ 57) = false from g)
          intro _; refine ⟨fun g => ?_, fun g => ?_⟩
          · have g : (n == 32) = true := g
            have g : n = 32 := by simpa using g
            intro _
            exact ⟨by rw [show cl n = 4 by (unfold cl; repeat' split) <;> omega], rfl⟩
          · have g : (n == 32) = false := g
            have g : ¬ n = 32 := by simpa using g
            intro _; refine ⟨fun g => ?_, fun g => ?_⟩
            · have g : (n == 126) = true := g
              have g : n = 126 := by simpa using g
              intro _
              exact ⟨by rw [show cl n = 6 by (unfold cl; repeat' split) <;> omega], rfl⟩
            · have g : (n == 126) = false := g
              have g : ¬ n = 126 := by simpa using g
              intro _; refine ⟨fun g => ?_, fun g => ?_⟩
              · have g := of_decide_eq_true (show decide (n > 32) = true from g)
                intro _; refine ⟨fun g => ?_, fun g => ?_⟩
                · have g := of_decide_eq_true (show decide (n < 126) = true from g)
                  intro _
                  exact ⟨by rw [show cl n = 5 by (unfold cl; repeat' split) <;> omega], rfl⟩
                · have g := of_decide_eq_false (show decide (n < 126) = false from g)
                  intro _
                  exact ⟨by rw [show cl n = 0 by (unfold cl; repeat' split) <;> omega], rfl⟩
              · have g := of_decide_eq_false (show decide (n > 32) = false from g)
                intro _
                exact ⟨by rw [show cl n = 0 by (unfold cl; repeat' split) <;> omega], rfl⟩
      · have g := of_decide_eq_false (show decide (n ≥ 48) = false from g)
        intro _; refine ⟨fun g => ?_, fun g => ?_⟩
        · have g : (n == 32) = true := g
          have g : n = 32 := by simpa using g
          intro _
          exact ⟨by rw [show cl n = 4 by (unfold cl; repeat' split) <;> omega], rfl⟩
        · have g : (n == 32) = false := g
          have g : ¬ n = 32 := by simpa using g
          intro _; refine ⟨fun g => ?_, fun g => ?_⟩
          · have g : (n == 126) = true := g
            have g : n = 126 := by simpa using g
            intro _
            exact ⟨by rw [show cl n = 6 by (unfold cl; repeat' split) <;> omega], rfl⟩
          · have g : (n == 126) = false := g
            have g : ¬ n = 126 := by simpa using g
            intro _; refine ⟨fun g => ?_, fun g => ?_⟩
            · have g := of_decide_eq_true (show decide (n > 32) = true from g)
              intro _; refine ⟨fun g => ?_, fun g => ?_⟩
              · have g := of_decide_eq_true (show decide (n < 126) = true from g)
                intro _
                exact ⟨by rw [show cl n = 5 by (unfold cl; repeat' split) <;> omega], rfl⟩
              · have g := of_decide_eq_false (show decide (n < 126) = false from g)
                intro _
                exact ⟨by rw [show cl n = 0 by (unfold cl; repeat' split) <;> omega], rfl⟩
            · have g := of_decide_eq_false (show decide (n > 32) = false from g)
              intro _
              exact ⟨by rw [show cl n = 0 by (unfold cl; repeat' split) <;> omega], rfl⟩
theorem dig_test (n : Int) (h : H) (K : V → H → Prop) (hK : K (.test (decide (48 ≤ n ∧ n ≤ 57))) h) : SemF Try.prog 54 [.int .i32 n] h K := by
  refine SemF.test ?_
  refine enter tt_ok Try.func54 (nt := 9) (cd := body Try.f54) rfl rfl rfl rfl ?_
  intro _; refine ⟨fun g => ?_, fun g => ?_⟩
  · have g := of_decide_eq_true (show decide (n ≥ 48) = true from g)
    intro _
    refine ⟨_, .inr rfl, ?_⟩
    have : decide (48 ≤ n ∧ n ≤ 57) = decide (n ≤ 57) := by
      by_cases e : n ≤ 57
      · rw [decide_eq_true e, decide_eq_true (show 48 ≤ n ∧ n ≤ 57 from ⟨by omega, e⟩)]
      · rw [decide_eq_false e, decide_eq_false (fun m => e m.2)]
    rw [← this]; exact hK
  · have g := of_decide_eq_false (show decide (n ≥ 48) = false from g)
    intro _
    refine ⟨false, .inl rfl, ?_⟩
    have : decide (48 ≤ n ∧ n ≤ 57) = false := decide_eq_false (fun m => by have := m.1; omega)
    rw [← this]; exact hK
theorem cap_test (n : Int) (h : H) (K : V → H → Prop) (hK : K (.test (decide (65 ≤ n ∧ n ≤ 90))) h) : SemF Try.prog 55 [.int .i32 n] h K := by
  refine SemF.test ?_
  refine enter tt_ok Try.func55 (nt := 9) (cd := body Try.f55) rfl rfl rfl rfl ?_
  intro _; refine ⟨fun g => ?_, fun g => ?_⟩
  · have g := of_decide_eq_true (show decide (n ≥ 65) = true from g)
    intro _
    refine ⟨_, .inr rfl, ?_⟩
    have : decide (65 ≤ n ∧ n ≤ 90) = decide (n ≤ 90) := by
      by_cases e : n ≤ 90
      · rw [decide_eq_true e, decide_eq_true (show 65 ≤ n ∧ n ≤ 90 from ⟨by omega, e⟩)]
      · rw [decide_eq_false e, decide_eq_false (fun m => e m.2)]
    rw [← this]; exact hK
  · have g := of_decide_eq_false (show decide (n ≥ 65) = false from g)
    intro _
    refine ⟨false, .inl rfl, ?_⟩
    have : decide (65 ≤ n ∧ n ≤ 90) = false := decide_eq_false (fun m => by have := m.1; omega)
    rw [← this]; exact hK
theorem sml_test (n : Int) (h : H) (K : V → H → Prop) (hK : K (.test (decide (97 ≤ n ∧ n ≤ 122))) h) : SemF Try.prog 56 [.int .i32 n] h K := by
  refine SemF.test ?_
  refine enter tt_ok Try.func56 (nt := 9) (cd := body Try.f56) rfl rfl rfl rfl ?_
  intro _; refine ⟨fun g => ?_, fun g => ?_⟩
  · have g := of_decide_eq_true (show decide (n ≥ 97) = true from g)
    intro _
    refine ⟨_, .inr rfl, ?_⟩
    have : decide (97 ≤ n ∧ n ≤ 122) = decide (n ≤ 122) := by
      by_cases e : n ≤ 122
      · rw [decide_eq_true e, decide_eq_true (show 97 ≤ n ∧ n ≤ 122 from ⟨by omega, e⟩)]
      · rw [decide_eq_false e, decide_eq_false (fun m => e m.2)]
    rw [← this]; exact hK
  · have g := of_decide_eq_false (show decide (n ≥ 97) = false from g)
    intro _
    refine ⟨false, .inl rfl, ?_⟩
    have : decide (97 ≤ n ∧ n ≤ 122) = false := decide_eq_false (fun m => by have := m.1; omega)
    rw [← this]; exact hK
def sg (n : Int) : Bool := decide (32 < n ∧ n < 126 ∧ ¬ (97 ≤ n ∧ n ≤ 122) ∧ ¬ (65 ≤ n ∧ n ≤ 90) ∧ ¬ (48 ≤ n ∧ n ≤ 57))
theorem sign_test (n : Int) (h : H) (K : V → H → Prop) (hK : K (.test (sg n)) h) : SemF Try.prog 53 [.int .i32 n] h K := by
  refine SemF.test ?_
  refine enter tt_ok Try.func53 (nt := 24) (cd := body Try.f53) rfl rfl rfl rfl ?_
  have no : ∀ P : Prop, (sg n = true → P) → ¬ P → ∃ b, (V.bool false = .bool b ∨ V.bool false = .test b) ∧ K (.test b) h := fun P h1 h2 => ⟨false, .inl rfl, by
    have : sg n = false := by
      cases e : sg n with
      | false => rfl
      | true => exact absurd (h1 e) h2
    rw [← this]; exact hK⟩
  have un : sg n = true → (32 < n ∧ n < 126 ∧ ¬ (97 ≤ n ∧ n ≤ 122) ∧ ¬ (65 ≤ n ∧ n ≤ 90) ∧ ¬ (48 ≤ n ∧ n ≤ 57)) := fun h => of_decide_eq_true h
  intro _; refine ⟨fun g => ?_, fun g => ?_⟩
  rotate_left
  · have g := of_decide_eq_false (show decide (n > 32) = false from g)
    intro _
    exact no (32 < n) (fun h => (un h).1) (by omega)
  have g1 := of_decide_eq_true (show decide (n > 32) = true from g)
  intro _; refine ⟨fun g => ?_, fun g => ?_⟩
  rotate_left
  · have g := of_decide_eq_false (show decide (n < 126) = false from g)
    intro _
    exact no (n < 126) (fun h => (un h).2.1) (by omega)
  have g2 := of_decide_eq_true (show decide (n < 126) = true from g)
  intro _
  refine sml_test _ _ _ ?_
  intro _; refine ⟨fun g => ?_, fun g => ?_⟩
  rotate_left
  · have g : (!decide (97 ≤ n ∧ n ≤ 122)) = false := g
    rw [Bool.not_eq_false'] at g
    have g := of_decide_eq_true g
    intro _
    exact no (¬ (97 ≤ n ∧ n ≤ 122)) (fun h => (un h).2.2.1) (fun h => h g)
  have g : (!decide (97 ≤ n ∧ n ≤ 122)) = true := g
  rw [Bool.not_eq_true'] at g
  have g3 := of_decide_eq_false g
  intro _
  refine cap_test _ _ _ ?_
  intro _; refine ⟨fun g => ?_, fun g => ?_⟩
  rotate_left
  · have g : (!decide (65 ≤ n ∧ n ≤ 90)) = false := g
    rw [Bool.not_eq_false'] at g
    have g := of_decide_eq_true g
    intro _
    exact no (¬ (65 ≤ n ∧ n ≤ 90)) (fun h => (un h).2.2.2.1) (fun h => h g)
  have g : (!decide (65 ≤ n ∧ n ≤ 90)) = true := g
  rw [Bool.not_eq_true'] at g
  have g4 := of_decide_eq_false g
  intro _
  refine dig_test _ _ _ ?_
  intro _
  refine ⟨_, .inr rfl, ?_⟩
  have : sg n = !decide (48 ≤ n ∧ n ≤ 57) := by
    by_cases e : 48 ≤ n ∧ n ≤ 57
    · rw [decide_eq_true e]; exact decide_eq_false (fun h => h.2.2.2.2 e)
    · rw [decide_eq_false e]; exact decide_eq_true ⟨g1, g2, g3, g4, e⟩
  rw [← this]; exact hK
theorem class_ok (n : Int) : SemF Try.prog 52 [.int .i32 n] ⟨0, 0, []⟩ (fun v _ => v = .int .i64 (cl n) ∧ nameless v = true) := by
  refine enter tt_ok Try.func52 (nt := 35) (cd := body Try.f52) rfl rfl rfl rfl ?_
  intro _; refine ⟨fun g => ?_, fun g => ?_⟩
  · have g : (n == 126) = true := g
    have g : n = 126 := by simpa using g
    intro _
    refine ⟨?_, rfl⟩
    rw [show cl n = 6 by (unfold cl; repeat' split) <;> omega]
    rfl
  have g : (n == 126) = false := g
  have g6 : ¬ n = 126 := by simpa using g
  intro _
  refine sign_test _ _ _ ?_
  intro _; refine ⟨fun g => ?_, fun g => ?_⟩
  · have g := of_decide_eq_true (show decide (32 < n ∧ n < 126 ∧ ¬ (97 ≤ n ∧ n ≤ 122) ∧ ¬ (65 ≤ n ∧ n ≤ 90) ∧ ¬ (48 ≤ n ∧ n ≤ 57)) = true from g)
    intro _
    refine ⟨?_, rfl⟩
    rw [show cl n = 5 by (unfold cl; repeat' split) <;> omega]
    rfl
  have g5 := of_decide_eq_false (show decide (32 < n ∧ n < 126 ∧ ¬ (97 ≤ n ∧ n ≤ 122) ∧ ¬ (65 ≤ n ∧ n ≤ 90) ∧ ¬ (48 ≤ n ∧ n ≤ 57)) = false from g)
  intro _; refine ⟨fun g => ?_, fun g => ?_⟩
  · have g : (n == 32) = true := g
    have g : n = 32 := by simpa using g
    intro _
    refine ⟨?_, rfl⟩
    rw [show cl n = 4 by (unfold cl; repeat' split) <;> omega]
    rfl
  have g : (n == 32) = false := g
  have g4 : ¬ n = 32 := by simpa using g
  intro _
  refine dig_test _ _ _ ?_
  intro _; refine ⟨fun g => ?_, fun g => ?_⟩
  · have g := of_decide_eq_true (show decide (48 ≤ n ∧ n ≤ 57) = true from g)
    intro _
    refine ⟨?_, rfl⟩
    rw [show cl n = 3 by (unfold cl; repeat' split) <;> omega]
    rfl
  have g3 := of_decide_eq_false (show decide (48 ≤ n ∧ n ≤ 57) = false from g)
  intro _
  refine cap_test _ _ _ ?_
  intro _; refine ⟨fun g => ?_, fun g => ?_⟩
  · have g := of_decide_eq_true (show decide (65 ≤ n ∧ n ≤ 90) = true from g)
    intro _
    refine ⟨?_, rfl⟩
    rw [show cl n = 2 by (unfold cl; repeat' split) <;> omega]
    rfl
  have g2 := of_decide_eq_false (show decide (65 ≤ n ∧ n ≤ 90) = false from g)
  intro _
  refine sml_test _ _ _ ?_
  intro _; refine ⟨fun g => ?_, fun g => ?_⟩
  · have g := of_decide_eq_true (show decide (97 ≤ n ∧ n ≤ 122) = true from g)
    intro _
    refine ⟨?_, rfl⟩
    rw [show cl n = 1 by (unfold cl; repeat' split) <;> omega]
    rfl
  have g1 := of_decide_eq_false (show decide (97 ≤ n ∧ n ≤ 122) = false from g)
  intro _
  refine ⟨?_, rfl⟩
  rw [show cl n = 0 by (unfold cl; repeat' split) <;> omega]
/-! texts -/
def by' (s : List UInt8) (i : Nat) : Int := ((s.getD i 0).toNat : Int)
def VA (s : List UInt8) : Prop := s.length ≤ 2000 ∧ ∀ i, i < s.length → cl (by' s i) ≠ 0
instance decVA (s : List UInt8) : Decidable (VA s) := inferInstanceAs (Decidable (_ ∧ _))
theorem ba_get {s : List UInt8} {k : Nat} (h : k < s.length) : ∃ h' : k < (ByteArray.mk s.toArray).size, (ByteArray.mk s.toArray)[k]'h' = s[k] :=
  ⟨by simpa [ByteArray.size] using h, by show s.toArray[k]'_ = s[k]; simp⟩
theorem rune_low {s : List UInt8} {k : Nat} (h : k < s.length) (hb : by' s k < 128) : rune s k = ((s.getD k 0).toNat, 1) := by
  have e : s.getD k 0 = s[k] := by rw [List.getD_eq_getElem?_getD, List.getElem?_eq_getElem h]; rfl
  unfold by' at hb
  rw [e] at hb ⊢
  obtain ⟨h', e'⟩ := ba_get h
  have := Go.decode_ascii ⟨s.toArray⟩ k h' (by rw [e']; omega)
  rw [e'] at this
  exact this
theorem rune_high {s : List UInt8} {k : Nat} (h : k < s.length) (hb : 128 ≤ by' s k) : 128 ≤ (rune s k).1 := by
  have e : s.getD k 0 = s[k] := by rw [List.getD_eq_getElem?_getD, List.getElem?_eq_getElem h]; rfl
  unfold by' at hb
  rw [e] at hb
  obtain ⟨h', e'⟩ := ba_get h
  exact (Go.decode_high ⟨s.toArray⟩ k h' (by rw [e']; omega)).1
theorem by_succ {s : List UInt8} {k : Nat} (hm : ∀ i, i < k → cl (by' s i) ≠ 0) (h : cl (by' s k) ≠ 0) : ∀ i, i < k + 1 → cl (by' s i) ≠ 0 := fun i hi => by
  by_cases e : i = k
  · subst e; exact h
  · exact hm i (by omega)
theorem trvalid_ok (s : List UInt8) (hl : s.length ≤ 9223372036854775807) : SemF Try.prog 47 [.str s] ⟨0, 0, []⟩ (fun v _ => v = .test (decide (VA s)) ∧ nameless v = true) := by
  refine SemF.test ?_
  refine enter tt_ok Try.func47 (nt := 18) (cd := body Try.f47) rfl rfl rfl rfl ?_
  intro _
  refine loop2 tt_ok [3] [] 0 (fun k : { k : Nat // k ≤ s.length ∧ ∀ i, i < k → cl (by' s i) ≠ 0 } => [(3, .int .i64 (k : Nat))]) (fun _ => []) (fun k => s.length - k) ⟨0, by omega, fun i h => by omega⟩ ?_
  intro _
  refine ⟨⟨th [] 0, rfl, rfl, rfl, rfl, rfl, rfl, ?_, ?_⟩, ?_⟩
  · (repeat' first | exact trivial | exact rfl | refine And.intro ?_ ?_)
  · (repeat' first | exact trivial | exact rfl | refine And.intro ?_ ?_)
  intro ⟨k, hk, hmk⟩
  intro _; refine ⟨fun g => ?_, fun g => ?_⟩
  rotate_left
  · have hkl := of_decide_eq_false (show decide ((k : Int) < (s.length : Int)) = false from g)
    have hkl : k = s.length := by omega
    subst hkl
    intro _
    refine ⟨_, .inr rfl, ?_, rfl⟩
    by_cases e : s.length ≤ 2000
    · rw [decide_eq_true (show (s.length : Int) ≤ 2000 by omega), decide_eq_true (show VA s from ⟨e, hmk⟩)]
    · rw [decide_eq_false (show ¬ (s.length : Int) ≤ 2000 by omega), decide_eq_false (fun h : VA s => e h.1)]
  have hkl := of_decide_eq_true (show decide ((k : Int) < (s.length : Int)) = true from g)
  intro _; refine ⟨show 0 ≤ (k : Int) ∧ (k : Int) < (s.length : Int) by omega, ?_⟩
  intro _
  refine call_pure [] (rclass_ok (by' s k)) rfl rfl rfl ?_ ?_ ?_
  · (repeat' first | exact trivial | exact rfl | refine And.intro ?_ ?_)
  · (repeat' first | exact trivial | exact rfl | refine And.intro ?_ ?_)
  intro v hv _
  subst hv
  intro _; refine ⟨fun g => ?_, fun g => ?_⟩
  · have g : (cl (by' s k) == 0) = true := g
    have g : cl (by' s k) = 0 := by simpa using g
    intro _
    exact ⟨false, .inl rfl, by rw [decide_eq_false (fun h : VA s => h.2 k (by omega) g)], rfl⟩
  have g : (cl (by' s k) == 0) = false := g
  have g : cl (by' s k) ≠ 0 := by simpa using g
  refine ⟨⟨k + 1, by omega, by_succ hmk g⟩, by simp; omega, th [] 0, rfl, rfl, rfl, rfl, rfl, rfl, ?_, ?_⟩
  · (repeat' first | exact trivial | exact rfl | refine And.intro ?_ ?_)
    exact (wrap_nat k (by omega)).symm
  · (repeat' first | exact trivial | exact rfl | refine And.intro ?_ ?_)
theorem tvalid_ok (s : List UInt8) (hl : s.length ≤ 9223372036854775807) : SemF Try.prog 50 [.str s] ⟨0, 0, []⟩ (fun v _ => v = .test (decide (VA s)) ∧ nameless v = true) := by
  refine SemF.test ?_
  refine enter tt_ok Try.func50 (nt := 16) (cd := body Try.f50) rfl rfl rfl rfl ?_
  intro _; refine ⟨fun g => ?_, fun g => ?_⟩
  · have g := of_decide_eq_true (show decide ((s.length : Int) > 2000) = true from g)
    intro _
    exact ⟨false, .inl rfl, by rw [decide_eq_false (fun h : VA s => by have := h.1; omega)], rfl⟩
  have g2 := of_decide_eq_false (show decide ((s.length : Int) > 2000) = false from g)
  intro _
  refine loop2 tt_ok [] [0] 1 (fun k : { k : Nat // k ≤ s.length ∧ ∀ i, i < k → cl (by' s i) ≠ 0 } => []) (fun k => [(0, .sit s (k : Nat))]) (fun k => s.length - k) ⟨0, by omega, fun i h => by omega⟩ ?_
  intro _
  refine ⟨⟨th [] 1, rfl, rfl, rfl, rfl, rfl, rfl, ?_, ?_⟩, ?_⟩
  · (repeat' first | exact trivial | exact rfl | refine And.intro ?_ ?_)
  · (repeat' first | exact trivial | exact rfl | refine And.intro ?_ ?_)
  intro ⟨k, hk, hmk⟩
  intro _; refine ⟨fun g => ?_, fun g => ?_⟩
  rotate_left
  · have hkl := of_decide_eq_false (show decide (k < s.length) = false from g)
    have hkl : k = s.length := by omega
    subst hkl
    intro _
    exact ⟨true, .inl rfl, by rw [decide_eq_true (show VA s from ⟨by omega, hmk⟩)], rfl⟩
  have hkl := of_decide_eq_true (show decide (k < s.length) = true from g)
  intro _
  refine call_pure [] (class_ok ((rune s k).1 : Int)) rfl rfl rfl ?_ ?_ ?_
  · (repeat' first | exact trivial | exact rfl | refine And.intro ?_ ?_)
  · (repeat' first | exact trivial | exact rfl | refine And.intro ?_ ?_)
  intro v hv _
  subst hv
  intro _; refine ⟨fun g => ?_, fun g => ?_⟩
  · have g : (cl ((rune s k).1 : Int) == 0) = true := g
    have g : cl ((rune s k).1 : Int) = 0 := by simpa using g
    intro _
    refine ⟨false, .inl rfl, ?_, rfl⟩
    rw [decide_eq_false (fun h : VA s => ?_)]
    refine h.2 k hkl ?_
    by_cases hb : by' s k < 128
    · rw [rune_low hkl hb] at g; exact g
    · exact cl_high (by omega)
  have g : (cl ((rune s k).1 : Int) == 0) = false := g
  have g : cl ((rune s k).1 : Int) ≠ 0 := by simpa using g
  have hb : by' s k < 128 := by
    rcases Int.lt_or_le (by' s k) 128 with h | h
    · exact h
    · exact absurd (cl_high (show (128 : Int) ≤ (rune s k).1 by have := rune_high hkl h; omega)) g
  have er := rune_low hkl hb
  refine ⟨⟨k + 1, by omega, by_succ hmk (by rw [er] at g; exact g)⟩, by simp; omega, th [] 1, rfl, rfl, rfl, rfl, rfl, rfl, ?_, ?_⟩
  · (repeat' first | exact trivial | exact rfl | refine And.intro ?_ ?_)
  · (repeat' first | exact trivial | exact rfl | refine And.intro ?_ ?_)
    show k + 1 = k + (rune s k).2
    rw [er]
def ni (l : Rws) (i : Nat) : Int := ((l.getD i []).getD 0 (D.n 0)).int
def np (l : Rws) (i : Nat) : Int := ((l.getD i []).getD 1 (D.n 0)).int
def nk (l : Rws) (i : Nat) : Int := ((l.getD i []).getD 2 (D.n 0)).int
def nc (l : Rws) (i : Nat) : Int := ((l.getD i []).getD 3 (D.n 0)).int
def nt (l : Rws) (i : Nat) : List UInt8 := ((l.getD i []).getD 4 (D.n 0)).str
/-- a node that is well-formed -/
def Nd (a b c d : Int) (s : List UInt8) : Prop := (1 ≤ a ∧ a ≤ 1000000) ∧ (1 ≤ c ∧ c ≤ 11) ∧ (0 ≤ d ∧ d ≤ 100) ∧ (0 ≤ b ∧ b ≤ 1000000) ∧ VA s ∧ (s = [] ∨ c = 2 ∨ c = 11)
instance decNd (a b c d : Int) (s : List UInt8) : Decidable (Nd a b c d s) := inferInstanceAs (Decidable (_ ∧ _))
/-- what can stand where -/
def St (k i : Int) : Prop := if k = 8 then i = 7 else if k = 9 then i = 8 else (i = 1 ∨ i = 3 ∨ i = 4 ∨ i = 5 ∨ i = 6 ∨ i = 9)
instance decSt (k i : Int) : Decidable (St k i) := by unfold St; infer_instance
theorem rid_test (n : Int) (h : H) (K : V → H → Prop) (hK : K (.test (decide (1 ≤ n ∧ n ≤ 1000000))) h) : SemF Try.prog 48 [.int .i64 n] h K := by
  refine SemF.test ?_
  refine enter tt_ok Try.func48 (nt := 9) (cd := body Try.f48) rfl rfl rfl rfl ?_
  intro _; refine ⟨fun g => ?_, fun g => ?_⟩
  · have g := of_decide_eq_true (show decide (n ≥ 1) = true from g)
    intro _
    refine ⟨_, .inr rfl, ?_⟩
    have e : decide (1 ≤ n ∧ n ≤ 1000000) = decide (n ≤ 1000000) := decide_eq_decide.2 ⟨fun h => h.2, fun h => ⟨g, h⟩⟩
    rw [← e]; exact hK
  · have g := of_decide_eq_false (show decide (n ≥ 1) = false from g)
    intro _
    refine ⟨false, .inl rfl, ?_⟩
    have e : decide (1 ≤ n ∧ n ≤ 1000000) = false := decide_eq_false (fun m => g m.1)
    rw [← e]; exact hK
theorem gid_test (n : Int) (h : H) (K : V → H → Prop) (hK : K (.test (decide (1 ≤ n ∧ n ≤ 1000000))) h) : SemF Try.prog 44 [.int .i64 n] h K := by
  refine SemF.test ?_
  refine enter tt_ok Try.func44 (nt := 9) (cd := body Try.f44) rfl rfl rfl rfl ?_
  intro _; refine ⟨fun g => ?_, fun g => ?_⟩
  · have g := of_decide_eq_true (show decide (n ≥ 1) = true from g)
    intro _
    refine ⟨_, .inr rfl, ?_⟩
    have e : decide (1 ≤ n ∧ n ≤ 1000000) = decide (n ≤ 1000000) := decide_eq_decide.2 ⟨fun h => h.2, fun h => ⟨g, h⟩⟩
    rw [← e]; exact hK
  · have g := of_decide_eq_false (show decide (n ≥ 1) = false from g)
    intro _
    refine ⟨false, .inl rfl, ?_⟩
    have e : decide (1 ≤ n ∧ n ≤ 1000000) = false := decide_eq_false (fun m => g m.1)
    rw [← e]; exact hK
theorem stands_ok (k i : Int) : SemF Try.prog 49 [.int .i64 k, .int .i64 i] ⟨0, 0, []⟩ (fun v _ => v = .test (decide (St k i)) ∧ nameless v = true) := by
  refine SemF.test ?_
  refine enter tt_ok Try.func49 (nt := 35) (cd := body Try.f49) rfl rfl rfl rfl ?_
  intro _; refine ⟨fun g => ?_, fun g => ?_⟩
  · have g : k = 8 := eq_of_beq (show (k == 8) = true from g)
    intro _
    refine ⟨_, .inr rfl, ?_, rfl⟩
    have eS : St k i ↔ i = 7 := by unfold St; rw [if_pos g]
    have e : decide (St k i) = (i == 7) := by
      by_cases q : i = 7
      · rw [decide_eq_true (eS.2 q), q]; rfl
      · rw [decide_eq_false (fun h => q (eS.1 h))]; simp [q]
    rw [e]
  have g8 : ¬ k = 8 := fun e => by rw [e] at g; cases g
  intro _; refine ⟨fun g => ?_, fun g => ?_⟩
  · have g : k = 9 := eq_of_beq (show (k == 9) = true from g)
    intro _
    refine ⟨_, .inr rfl, ?_, rfl⟩
    have eS : St k i ↔ i = 8 := by unfold St; rw [if_neg g8, if_pos g]
    have e : decide (St k i) = (i == 8) := by
      by_cases q : i = 8
      · rw [decide_eq_true (eS.2 q), q]; rfl
      · rw [decide_eq_false (fun h => q (eS.1 h))]; simp [q]
    rw [e]
  have g9 : ¬ k = 9 := fun e => by rw [e] at g; cases g
  have eS : St k i ↔ (i = 1 ∨ i = 3 ∨ i = 4 ∨ i = 5 ∨ i = 6 ∨ i = 9) := by unfold St; rw [if_neg g8, if_neg g9]
  intro _; refine ⟨fun g => ?_, fun g => ?_⟩
  · have g : i = 1 := eq_of_beq (show (i == 1) = true from g)
    intro _
    exact ⟨true, .inl rfl, by rw [decide_eq_true (eS.2 (by omega))], rfl⟩
  have h1 : ¬ i = 1 := fun e => by rw [e] at g; cases g
  intro _; refine ⟨fun g => ?_, fun g => ?_⟩
  · have g : i = 3 := eq_of_beq (show (i == 3) = true from g)
    intro _
    exact ⟨true, .inl rfl, by rw [decide_eq_true (eS.2 (by omega))], rfl⟩
  have h3 : ¬ i = 3 := fun e => by rw [e] at g; cases g
  intro _; refine ⟨fun g => ?_, fun g => ?_⟩
  · have g : i = 4 := eq_of_beq (show (i == 4) = true from g)
    intro _
    exact ⟨true, .inl rfl, by rw [decide_eq_true (eS.2 (by omega))], rfl⟩
  have h4 : ¬ i = 4 := fun e => by rw [e] at g; cases g
  intro _; refine ⟨fun g => ?_, fun g => ?_⟩
  · have g : i = 5 := eq_of_beq (show (i == 5) = true from g)
    intro _
    exact ⟨true, .inl rfl, by rw [decide_eq_true (eS.2 (by omega))], rfl⟩
  have h5 : ¬ i = 5 := fun e => by rw [e] at g; cases g
  intro _; refine ⟨fun g => ?_, fun g => ?_⟩
  · have g : i = 6 := eq_of_beq (show (i == 6) = true from g)
    intro _
    exact ⟨true, .inl rfl, by rw [decide_eq_true (eS.2 (by omega))], rfl⟩
  have h6 : ¬ i = 6 := fun e => by rw [e] at g; cases g
  intro _
  refine ⟨_, .inr rfl, ?_, rfl⟩
  have e : decide (St k i) = (i == 9) := by
    by_cases q : i = 9
    · rw [decide_eq_true (eS.2 (by omega)), q]; rfl
    · rw [decide_eq_false (fun h => by have := eS.1 h; omega)]
      simp [q]
  rw [e]
theorem cans_ok (k i : Int) : SemF Try.prog 46 [.int .i64 k, .int .i64 i] ⟨0, 0, []⟩ (fun v _ => v = .test (decide (St k i)) ∧ nameless v = true) := by
  refine SemF.test ?_
  refine enter tt_ok Try.func46 (nt := 22) (cd := body Try.f46) rfl rfl rfl rfl ?_
  intro _; refine ⟨fun g => ?_, fun g => ?_⟩
  · have g : k = 8 := eq_of_beq (show (k == 8) = true from g)
    intro _
    refine ⟨_, .inr rfl, ?_, rfl⟩
    have eS : St k i ↔ i = 7 := by unfold St; rw [if_pos g]
    have e : decide (St k i) = (i == 7) := by
      by_cases q : i = 7
      · rw [decide_eq_true (eS.2 q), q]; rfl
      · rw [decide_eq_false (fun h => q (eS.1 h))]; simp [q]
    rw [e]
  have g8 : ¬ k = 8 := fun e => by rw [e] at g; cases g
  intro _; refine ⟨fun g => ?_, fun g => ?_⟩
  · have g : k = 9 := eq_of_beq (show (k == 9) = true from g)
    intro _
    refine ⟨_, .inr rfl, ?_, rfl⟩
    have eS : St k i ↔ i = 8 := by unfold St; rw [if_neg g8, if_pos g]
    have e : decide (St k i) = (i == 8) := by
      by_cases q : i = 8
      · rw [decide_eq_true (eS.2 q), q]; rfl
      · rw [decide_eq_false (fun h => q (eS.1 h))]; simp [q]
    rw [e]
  have g9 : ¬ k = 9 := fun e => by rw [e] at g; cases g
  have eS : St k i ↔ (i = 1 ∨ i = 3 ∨ i = 4 ∨ i = 5 ∨ i = 6 ∨ i = 9) := by unfold St; rw [if_neg g8, if_neg g9]
  intro _; refine ⟨fun g => ?_, fun g => ?_⟩
  · have g : i = 1 := eq_of_beq (show (i == 1) = true from g)
    intro _
    exact ⟨true, .inl rfl, by rw [decide_eq_true (eS.2 (by omega))], rfl⟩
  have h1 : ¬ i = 1 := fun e => by rw [e] at g; cases g
  intro _; refine ⟨fun g => ?_, fun g => ?_⟩
  · have g : i = 3 := eq_of_beq (show (i == 3) = true from g)
    intro _
    exact ⟨true, .inl rfl, by rw [decide_eq_true (eS.2 (by omega))], rfl⟩
  have h3 : ¬ i = 3 := fun e => by rw [e] at g; cases g
  intro _; refine ⟨fun g => ?_, fun g => ?_⟩
  · have g : i = 4 := eq_of_beq (show (i == 4) = true from g)
    intro _
    exact ⟨true, .inl rfl, by rw [decide_eq_true (eS.2 (by omega))], rfl⟩
  have h4 : ¬ i = 4 := fun e => by rw [e] at g; cases g
  intro _; refine ⟨fun g => ?_, fun g => ?_⟩
  · have g : i = 5 := eq_of_beq (show (i == 5) = true from g)
    intro _
    exact ⟨true, .inl rfl, by rw [decide_eq_true (eS.2 (by omega))], rfl⟩
  have h5 : ¬ i = 5 := fun e => by rw [e] at g; cases g
  intro _; refine ⟨fun g => ?_, fun g => ?_⟩
  · have g : i = 6 := eq_of_beq (show (i == 6) = true from g)
    intro _
    exact ⟨true, .inl rfl, by rw [decide_eq_true (eS.2 (by omega))], rfl⟩
  have h6 : ¬ i = 6 := fun e => by rw [e] at g; cases g
  intro _; refine ⟨fun g => ?_, fun g => ?_⟩
  · have g : i = 9 := eq_of_beq (show (i == 9) = true from g)
    intro _
    exact ⟨true, .inl rfl, by rw [decide_eq_true (eS.2 (by omega))], rfl⟩
  have h9 : ¬ i = 9 := fun e => by rw [e] at g; cases g
  intro _
  exact ⟨false, .inl rfl, by rw [decide_eq_false (fun h => by have := eS.1 h; omega)], rfl⟩
set_option maxHeartbeats 1000000 in
theorem rnode_ok (a b c d : Int) (s : List UInt8) (hl : s.length ≤ 9223372036854775807) : SemF Try.prog 41 [.agg [.int .i64 a, .int .i64 b, .int .i64 c, .int .i64 d, .str s]] ⟨0, 0, []⟩ (fun v _ => v = .test (decide (Nd a b c d s)) ∧ nameless v = true) := by
  refine SemF.test ?_
  refine enter tt_ok Try.func41 (nt := 58) (cd := body Try.f41) rfl rfl rfl rfl ?_
  intro _
  refine call_pure [] (trvalid_ok s hl) rfl rfl rfl ?_ ?_ ?_
  · (repeat' first | exact trivial | exact rfl | refine And.intro ?_ ?_)
  · (repeat' first | exact trivial | exact rfl | refine And.intro ?_ ?_)
  intro v hv _
  subst hv
  intro _; refine ⟨fun g => ?_, fun g => ?_⟩
  · have g : (!decide (VA s)) = true := g
    rw [Bool.not_eq_true'] at g
    have g := of_decide_eq_false g
    intro _
    exact ⟨false, .inl rfl, by rw [decide_eq_false (fun h : Nd a b c d s => g h.2.2.2.2.1)], rfl⟩
  have gV : (!decide (VA s)) = false := g
  rw [Bool.not_eq_false'] at gV
  have gV := of_decide_eq_true gV
  intro _
  refine rid_test _ _ _ ?_
  intro _; refine ⟨fun g => ?_, fun g => ?_⟩
  · have g : (!decide (1 ≤ a ∧ a ≤ 1000000)) = true := g
    rw [Bool.not_eq_true'] at g
    have g := of_decide_eq_false g
    intro _
    exact ⟨false, .inl rfl, by rw [decide_eq_false (fun h : Nd a b c d s => g h.1)], rfl⟩
  have gI : (!decide (1 ≤ a ∧ a ≤ 1000000)) = false := g
  rw [Bool.not_eq_false'] at gI
  have gI := of_decide_eq_true gI
  intro _; refine ⟨fun g => ?_, fun g => ?_⟩
  · have g := of_decide_eq_true (show decide (c < 1) = true from g)
    intro _
    exact ⟨false, .inl rfl, by rw [decide_eq_false (fun h : Nd a b c d s => by have := h.2.1; omega)], rfl⟩
  have k1 := of_decide_eq_false (show decide (c < 1) = false from g)
  intro _; refine ⟨fun g => ?_, fun g => ?_⟩
  · have g := of_decide_eq_true (show decide (c > 11) = true from g)
    intro _
    exact ⟨false, .inl rfl, by rw [decide_eq_false (fun h : Nd a b c d s => by have := h.2.1; omega)], rfl⟩
  have k2 := of_decide_eq_false (show decide (c > 11) = false from g)
  intro _; refine ⟨fun g => ?_, fun g => ?_⟩
  · have g := of_decide_eq_true (show decide (d < 0) = true from g)
    intro _
    exact ⟨false, .inl rfl, by rw [decide_eq_false (fun h : Nd a b c d s => by have := h.2.2.1; omega)], rfl⟩
  have d1 := of_decide_eq_false (show decide (d < 0) = false from g)
  intro _; refine ⟨fun g => ?_, fun g => ?_⟩
  · have g := of_decide_eq_true (show decide (d > 100) = true from g)
    intro _
    exact ⟨false, .inl rfl, by rw [decide_eq_false (fun h : Nd a b c d s => by have := h.2.2.1; omega)], rfl⟩
  have d2 := of_decide_eq_false (show decide (d > 100) = false from g)
  intro _; refine ⟨fun g => ?_, fun g => ?_⟩
  · have g := of_decide_eq_true (show decide (b < 0) = true from g)
    intro _
    exact ⟨false, .inl rfl, by rw [decide_eq_false (fun h : Nd a b c d s => by have := h.2.2.2.1; omega)], rfl⟩
  have p1 := of_decide_eq_false (show decide (b < 0) = false from g)
  intro _; refine ⟨fun g => ?_, fun g => ?_⟩
  · have g := of_decide_eq_true (show decide (b > 1000000) = true from g)
    intro _
    exact ⟨false, .inl rfl, by rw [decide_eq_false (fun h : Nd a b c d s => by have := h.2.2.2.1; omega)], rfl⟩
  have p2 := of_decide_eq_false (show decide (b > 1000000) = false from g)
  have all : (s = [] ∨ c = 2 ∨ c = 11) → Nd a b c d s := fun h => ⟨gI, by omega, by omega, by omega, gV, h⟩
  intro _; refine ⟨fun g => ?_, fun g => ?_⟩
  · have g : s = [] := eq_of_beq (show (s == []) = true from g)
    intro _
    exact ⟨true, .inl rfl, by rw [decide_eq_true (all (.inl g))], rfl⟩
  have g1 : ¬ s = [] := fun e => by rw [e] at g; cases g
  intro _; refine ⟨fun g => ?_, fun g => ?_⟩
  · have g : c = 2 := eq_of_beq (show (c == 2) = true from g)
    intro _
    exact ⟨true, .inl rfl, by rw [decide_eq_true (all (.inr (.inl g)))], rfl⟩
  have g2 : ¬ c = 2 := fun e => by rw [e] at g; cases g
  intro _
  refine ⟨_, .inr rfl, ?_, rfl⟩
  have e : decide (Nd a b c d s) = (c == 11) := by
    by_cases q : c = 11
    · rw [decide_eq_true (all (.inr (.inr q))), q]; rfl
    · rw [decide_eq_false (fun h => by
        rcases h.2.2.2.2.2 with h | h | h
        · exact g1 h
        · exact g2 h
        · exact q h)]
      simp [q]
  rw [e]
set_option maxHeartbeats 1000000 in
theorem node_ok (a b c d : Int) (s : List UInt8) (hl : s.length ≤ 9223372036854775807) : SemF Try.prog 45 [.agg [.int .i64 a, .int .i64 b, .int .i64 c, .int .i64 d, .str s]] ⟨0, 0, []⟩ (fun v _ => v = .test (decide (Nd a b c d s)) ∧ nameless v = true) := by
  refine SemF.test ?_
  refine enter tt_ok Try.func45 (nt := 54) (cd := body Try.f45) rfl rfl rfl rfl ?_
  intro _
  refine gid_test _ _ _ ?_
  intro _; refine ⟨fun g => ?_, fun g => ?_⟩
  · have g : (!decide (1 ≤ a ∧ a ≤ 1000000)) = true := g
    rw [Bool.not_eq_true'] at g
    have g := of_decide_eq_false g
    intro _
    exact ⟨false, .inl rfl, by rw [decide_eq_false (fun h : Nd a b c d s => g h.1)], rfl⟩
  have gI : (!decide (1 ≤ a ∧ a ≤ 1000000)) = false := g
  rw [Bool.not_eq_false'] at gI
  have gI := of_decide_eq_true gI
  intro _; refine ⟨fun g => ?_, fun g => ?_⟩
  · have g := of_decide_eq_true (show decide (c < 1) = true from g)
    intro _
    exact ⟨false, .inl rfl, by rw [decide_eq_false (fun h : Nd a b c d s => by have := h.2.1; omega)], rfl⟩
  have k1 := of_decide_eq_false (show decide (c < 1) = false from g)
  intro _; refine ⟨fun g => ?_, fun g => ?_⟩
  · have g := of_decide_eq_true (show decide (c > 11) = true from g)
    intro _
    exact ⟨false, .inl rfl, by rw [decide_eq_false (fun h : Nd a b c d s => by have := h.2.1; omega)], rfl⟩
  have k2 := of_decide_eq_false (show decide (c > 11) = false from g)
  intro _; refine ⟨fun g => ?_, fun g => ?_⟩
  · have g := of_decide_eq_true (show decide (d < 0) = true from g)
    intro _
    exact ⟨false, .inl rfl, by rw [decide_eq_false (fun h : Nd a b c d s => by have := h.2.2.1; omega)], rfl⟩
  have d1 := of_decide_eq_false (show decide (d < 0) = false from g)
  intro _; refine ⟨fun g => ?_, fun g => ?_⟩
  · have g := of_decide_eq_true (show decide (d > 100) = true from g)
    intro _
    exact ⟨false, .inl rfl, by rw [decide_eq_false (fun h : Nd a b c d s => by have := h.2.2.1; omega)], rfl⟩
  have d2 := of_decide_eq_false (show decide (d > 100) = false from g)
  intro _; refine ⟨fun g => ?_, fun g => ?_⟩
  · have g := of_decide_eq_true (show decide (b < 0) = true from g)
    intro _
    exact ⟨false, .inl rfl, by rw [decide_eq_false (fun h : Nd a b c d s => by have := h.2.2.2.1; omega)], rfl⟩
  have p1 := of_decide_eq_false (show decide (b < 0) = false from g)
  intro _; refine ⟨fun g => ?_, fun g => ?_⟩
  · have g := of_decide_eq_true (show decide (b > 1000000) = true from g)
    intro _
    exact ⟨false, .inl rfl, by rw [decide_eq_false (fun h : Nd a b c d s => by have := h.2.2.2.1; omega)], rfl⟩
  have p2 := of_decide_eq_false (show decide (b > 1000000) = false from g)
  intro _
  refine call_pure [] (tvalid_ok s hl) rfl rfl rfl ?_ ?_ ?_
  · (repeat' first | exact trivial | exact rfl | refine And.intro ?_ ?_)
  · (repeat' first | exact trivial | exact rfl | refine And.intro ?_ ?_)
  intro v hv _
  subst hv
  intro _; refine ⟨fun g => ?_, fun g => ?_⟩
  · have g : (!decide (VA s)) = true := g
    rw [Bool.not_eq_true'] at g
    have g := of_decide_eq_false g
    intro _
    exact ⟨false, .inl rfl, by rw [decide_eq_false (fun h : Nd a b c d s => g h.2.2.2.2.1)], rfl⟩
  have gV : (!decide (VA s)) = false := g
  rw [Bool.not_eq_false'] at gV
  have gV := of_decide_eq_true gV
  have all : (s = [] ∨ c = 2 ∨ c = 11) → Nd a b c d s := fun h => ⟨gI, by omega, by omega, by omega, gV, h⟩
  intro _; refine ⟨fun g => ?_, fun g => ?_⟩
  · have g : s = [] := eq_of_beq (show (s == []) = true from g)
    intro _
    exact ⟨true, .inl rfl, by rw [decide_eq_true (all (.inl g))], rfl⟩
  have g1 : ¬ s = [] := fun e => by rw [e] at g; cases g
  intro _; refine ⟨fun g => ?_, fun g => ?_⟩
  · have g : c = 2 := eq_of_beq (show (c == 2) = true from g)
    intro _
    exact ⟨true, .inl rfl, by rw [decide_eq_true (all (.inr (.inl g)))], rfl⟩
  have g2 : ¬ c = 2 := fun e => by rw [e] at g; cases g
  intro _
  refine ⟨_, .inr rfl, ?_, rfl⟩
  have e : decide (Nd a b c d s) = (c == 11) := by
    by_cases q : c = 11
    · rw [decide_eq_true (all (.inr (.inr q))), q]; rfl
    · rw [decide_eq_false (fun h => by
        rcases h.2.2.2.2.2 with h | h | h
        · exact g1 h
        · exact g2 h
        · exact q h)]
      simp [q]
  rw [e]
/-- the first of some nodes with an ID -/
def fi (l : Rws) (id : Int) : Nat → Nat
  | 0 => 0
  | k + 1 => if fi l id k < k then fi l id k else if ni l k = id then k else k + 1
theorem fi_le (l : Rws) (id : Int) : ∀ k, fi l id k ≤ k
  | 0 => Nat.le_refl _
  | k + 1 => by
    have := fi_le l id k
    unfold fi
    split
    · omega
    · split <;> omega
theorem fi_suc (l : Rws) (id : Int) (k : Nat) : fi l id (k + 1) = if fi l id k < k then fi l id k else if ni l k = id then k else k + 1 := rfl
theorem fi_none {l : Rws} {id : Int} : ∀ k, fi l id k = k → ∀ j, j < k → ni l j ≠ id
  | 0, _, j, hj => by omega
  | k + 1, h, j, hj => by
    have hle := fi_le l id k
    rw [fi_suc] at h
    by_cases c : fi l id k < k
    · rw [if_pos c] at h; omega
    · rw [if_neg c] at h
      by_cases d : ni l k = id
      · rw [if_pos d] at h; omega
      · by_cases e : j = k
        · subst e; exact d
        · exact fi_none k (by omega) j (by omega)
theorem fi_lt {l : Rws} {id : Int} : ∀ k, fi l id k < k → ni l (fi l id k) = id ∧ ∀ j, j < fi l id k → ni l j ≠ id
  | 0, h => by omega
  | k + 1, h => by
    have ih := fi_lt (l := l) (id := id) k
    have hle := fi_le l id k
    rw [fi_suc] at h ⊢
    by_cases c : fi l id k < k
    · rw [if_pos c]; exact ih c
    · rw [if_neg c] at h ⊢
      by_cases d : ni l k = id
      · rw [if_pos d]
        exact ⟨d, fun j hj => fi_none k (by omega) j hj⟩
      · rw [if_neg d] at h; omega
theorem fi_no {l : Rws} {id : Int} {k : Nat} (h : ¬ fi l id k < k) (j : Nat) (hj : j < k) : ni l j ≠ id := by
  have hle := fi_le l id k
  exact fi_none k (by omega) j hj
theorem fi_eq {l : Rws} {id : Int} {k j : Nat} (hj : j < k) (h1 : ni l j = id) (h2 : ∀ i, i < j → ni l i ≠ id) : fi l id k = j := by
  by_cases c : fi l id k < k
  · obtain ⟨a, b⟩ := fi_lt k c
    rcases Nat.lt_trichotomy (fi l id k) j with q | q | q
    · exact absurd a (h2 _ q)
    · exact q
    · exact absurd h1 (b j q)
  · exact absurd h1 (fi_no c j hj)
def ixv (l : Rws) (id : Int) (m : Nat) : Int := if fi l id m < m then (fi l id m : Nat) else -1
set_option maxHeartbeats 1000000 in
theorem index_ok (l : Rws) (id : Int) (m : Nat) (hm : m ≤ l.length) (h4 : m ≤ 9000000000000000000) : SemF Try.prog 42 [.slc 0 5 0 m, .int .i64 id] ⟨1, 1, [(0, .arr [.int .i64, .int .i64, .int .i64, .int .i64, .str] .rd (.recs l))]⟩ (fun v _ => v = .int .i64 (ixv l id m) ∧ nameless v = true) := by
  refine enter tt_ok Try.func42 (nt := 20) (cd := body Try.f42) rfl rfl rfl rfl ?_
  intro _
  refine loop2 tt_ok [5] [] 1 (fun k : { k : Nat // k ≤ m ∧ fi l id k = k } => [(5, .int .i64 (k.1 : Nat))]) (fun _ => []) (fun k => m - k.1) ⟨0, by omega, rfl⟩ ?_
  intro _
  refine ⟨⟨th [] 1, rfl, rfl, rfl, rfl, rfl, rfl, ?_, ?_⟩, ?_⟩
  · (repeat' first | exact trivial | exact rfl | refine And.intro ?_ ?_)
  · (repeat' first | exact trivial | exact rfl | refine And.intro ?_ ?_)
  intro ⟨k, hk, hf⟩
  have z : 0 + k = k := Nat.zero_add k
  intro _; refine ⟨fun g => ?_, fun g => ?_⟩
  rotate_left
  · have hkl := of_decide_eq_false (show decide ((k : Int) < (m : Int)) = false from g)
    obtain rfl : k = m := by omega
    intro _
    exact ⟨by unfold ixv; rw [if_neg (by omega)], rfl⟩
  have hkl := of_decide_eq_true (show decide ((k : Int) < (m : Int)) = true from g)
  intro _; refine ⟨show 0 ≤ (k : Int) ∧ (k : Int) < (m : Int) by omega, ?_⟩
  intro _; refine ⟨show 0 + (k : Int).toNat < l.length by omega, ?_⟩
  intro _; refine ⟨fun g => ?_, fun g => ?_⟩
  · have g : ni l (0 + k) = id := eq_of_beq (show (ni l (0 + k) == id) = true from g)
    rw [z] at g
    have e : fi l id m = k := fi_eq (by omega) g (fun i hi => fi_no (k := k) (by omega) i hi)
    intro _
    exact ⟨by unfold ixv; rw [e, if_pos (by omega)], rfl⟩
  have g : (ni l (0 + k) == id) = false := g
  rw [z] at g
  have g : ¬ ni l k = id := fun e => by rw [e] at g; simp at g
  refine ⟨⟨k + 1, by omega, by rw [fi_suc, if_neg (by omega), if_neg g]⟩, by show m - (k + 1) < m - k; omega, th [] 1, rfl, rfl, rfl, rfl, rfl, rfl, ?_, ?_⟩
  · (repeat' first | exact trivial | exact rfl | refine And.intro ?_ ?_)
    exact (wrap_nat k (by omega)).symm
  · (repeat' first | exact trivial | exact rfl | refine And.intro ?_ ?_)
end Go.Proofs.Ytmdobpjkcheneaa.selectorBegins
