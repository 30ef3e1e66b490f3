/-
  QuotBelow: whatever the arguments, the law returns true, and its arguments read as before. No conditions.
-/
import Derived.Test.YtgpccmdcaknkgaaRows
import Derived.Test.YtgpccmdcaknkgaaVwOpen2
import Derived.Test.YtgpccmdcaknkgaaVwRules6
import Derived.Test.YtgpccmdcaknkgaaVmFast3
import Derived.WalkKit
import Derived.ProofKit
import Derived.OpenShut
import Derived.Carry
import Derived.Test.YtgpccmdcaknkgaaHead
namespace Go.Proofs.Ytgpccmdcaknkgaa.quotBelow
open Go.ChangeShapes Go.WideShapes Go.ChangeAt Go.RowKit
open Go.Vm (Facts Val Sound)
open Go.Vm2
set_option linter.unusedVariables false
set_option linter.unusedSectionVars false

theorem own : ownKnob Try.prog.godebug = none := by kernel_rfl
theorem laidOut : laidOutB Try.prog = true := by kernel_rfl
def ts : List Nat := [23, 27, 3, 32]
def tt : Go.Vm2.TT := [
  (23, ⟨(.struct [⟨0, 1, false⟩, ⟨1, 1, false⟩, ⟨2, 1, false⟩]), true, 3, .agg [.int .i64 (0), .int .i64 (0), .int .i64 (0)], true⟩),
  (27, ⟨(.int .i64), false, 1, .int .i64 (0), true⟩),
  (3, ⟨(.int .i64), false, 1, .int .i64 (0), true⟩),
  (32, ⟨(.int .u16), false, 1, .int .u16 (0), true⟩)]
theorem tt_mk : mkTT Try.prog ts = some tt := by kernel_rfl
theorem head (w : World) : Calls Try.prog 5 #[] w fun e w' => e = .returned (.bool true) ∧ Below w.heap.size w w' :=
  Go.Proofs.Ytgpccmdcaknkgaa.Head.head w
instance facts : Facts := ⟨[], [5], false⟩
instance val : Val := ⟨fun _ => 0⟩
instance sound : Sound := ⟨fun f hf => (List.not_mem_nil hf).elim⟩
theorem tt_ok : TTok Try.prog tt := ttok_mk tt_mk
def body (f : Func) : Code := match f.body with | some c => c | none => .skip
set_option maxRecDepth 100000
theorem wrap_nat (k : Nat) (h : k < 9223372036854775807) : IntKind.i64.wrap ((k : Int) + 1) = ((k + 1 : Nat) : Int) := by
  rw [IntKind.wrap_i64]; omega
theorem wrapS (n : Int) (h : -9000000000000000000 ≤ n ∧ n ≤ 9000000000000000000) : IntKind.i64.wrap n = n := by rw [IntKind.wrap_i64]; omega
def Cd (n : Int) : Prop := -1000000000 ≤ n ∧ n ≤ 1000000000
def Pl (n : Int) : Prop := 0 ≤ n ∧ n ≤ 4000
instance decCd (n : Int) : Decidable (Cd n) := inferInstanceAs (Decidable (_ ∧ _))
instance decPl (n : Int) : Decidable (Pl n) := inferInstanceAs (Decidable (_ ∧ _))
theorem rcoord_test (n : Int) (h : H) (K : V → H → Prop) (hK : K (.test (decide (Cd n))) h) : SemF Try.prog 15 [.int .i64 n] h K := by
  refine SemF.test ?_
  refine enter tt_ok Try.func15 (nt := 9) (cd := body Try.f15) rfl rfl rfl rfl ?_
  intro _; refine ⟨fun g => ?_, fun g => ?_⟩
  · have g := of_decide_eq_true (show decide (n ≥ -1000000000) = true from g)
    intro _
    refine ⟨_, .inr rfl, ?_⟩
    have : decide (Cd n) = decide (n ≤ 1000000000) := by
      by_cases e : n ≤ 1000000000
      · rw [decide_eq_true e, decide_eq_true (show Cd n from ⟨by omega, e⟩)]
      · rw [decide_eq_false e, decide_eq_false (fun m => e m.2)]
    rw [← this]; exact hK
  · have g := of_decide_eq_false (show decide (n ≥ -1000000000) = false from g)
    intro _
    refine ⟨false, .inl rfl, ?_⟩
    have : decide (Cd n) = false := decide_eq_false (fun m => by have := m.1; omega)
    rw [← this]; exact hK
theorem coord_test (n : Int) (h : H) (K : V → H → Prop) (hK : K (.test (decide (Cd n))) h) : SemF Try.prog 20 [.int .i64 n] h K := by
  refine SemF.test ?_
  refine enter tt_ok Try.func20 (nt := 9) (cd := body Try.f20) rfl rfl rfl rfl ?_
  intro _; refine ⟨fun g => ?_, fun g => ?_⟩
  · have g := of_decide_eq_true (show decide (n ≥ -1000000000) = true from g)
    intro _
    refine ⟨_, .inr rfl, ?_⟩
    have : decide (Cd n) = decide (n ≤ 1000000000) := by
      by_cases e : n ≤ 1000000000
      · rw [decide_eq_true e, decide_eq_true (show Cd n from ⟨by omega, e⟩)]
      · rw [decide_eq_false e, decide_eq_false (fun m => e m.2)]
    rw [← this]; exact hK
  · have g := of_decide_eq_false (show decide (n ≥ -1000000000) = false from g)
    intro _
    refine ⟨false, .inl rfl, ?_⟩
    have : decide (Cd n) = false := decide_eq_false (fun m => by have := m.1; omega)
    rw [← this]; exact hK
theorem rplace_test (n : Int) (h : H) (K : V → H → Prop) (hK : K (.test (decide (Pl n))) h) : SemF Try.prog 7 [.int .i64 n] h K := by
  refine SemF.test ?_
  refine enter tt_ok Try.func7 (nt := 9) (cd := body Try.f7) rfl rfl rfl rfl ?_
  intro _; refine ⟨fun g => ?_, fun g => ?_⟩
  · have g := of_decide_eq_true (show decide (n ≥ 0) = true from g)
    intro _
    refine ⟨_, .inr rfl, ?_⟩
    have : decide (Pl n) = decide (n ≤ 4000) := by
      by_cases e : n ≤ 4000
      · rw [decide_eq_true e, decide_eq_true (show Pl n from ⟨by omega, e⟩)]
      · rw [decide_eq_false e, decide_eq_false (fun m => e m.2)]
    rw [← this]; exact hK
  · have g := of_decide_eq_false (show decide (n ≥ 0) = false from g)
    intro _
    refine ⟨false, .inl rfl, ?_⟩
    have : decide (Pl n) = false := decide_eq_false (fun m => by have := m.1; omega)
    rw [← this]; exact hK
theorem place_test (n : Int) (h : H) (K : V → H → Prop) (hK : K (.test (decide (Pl n))) h) : SemF Try.prog 16 [.int .i64 n] h K := by
  refine SemF.test ?_
  refine enter tt_ok Try.func16 (nt := 9) (cd := body Try.f16) rfl rfl rfl rfl ?_
  intro _; refine ⟨fun g => ?_, fun g => ?_⟩
  · have g := of_decide_eq_true (show decide (n ≥ 0) = true from g)
    intro _
    refine ⟨_, .inr rfl, ?_⟩
    have : decide (Pl n) = decide (n ≤ 4000) := by
      by_cases e : n ≤ 4000
      · rw [decide_eq_true e, decide_eq_true (show Pl n from ⟨by omega, e⟩)]
      · rw [decide_eq_false e, decide_eq_false (fun m => e m.2)]
    rw [← this]; exact hK
  · have g := of_decide_eq_false (show decide (n ≥ 0) = false from g)
    intro _
    refine ⟨false, .inl rfl, ?_⟩
    have : decide (Pl n) = false := decide_eq_false (fun m => by have := m.1; omega)
    rw [← this]; exact hK
def Qv (a b d : Int) : Prop := (1 ≤ d ∧ d ≤ 16) ∧ Cd a ∧ Cd b
instance decQv (a b d : Int) : Decidable (Qv a b d) := inferInstanceAs (Decidable (_ ∧ _))
abbrev QA (a b d : Int) : List V := [.int .i64 a, .int .i64 b, .int .i64 d]
theorem rvalid_ok (a b d : Int) : SemF Try.prog 6 [.agg (QA a b d)] ⟨0, 0, []⟩ (fun v _ => v = .test (decide (Qv a b d)) ∧ nameless v = true) := by
  refine SemF.test ?_
  refine enter tt_ok Try.func6 (nt := 21) (cd := body Try.f6) rfl rfl rfl rfl ?_
  have no : ¬ Qv a b d → ∃ x, (V.bool false = .bool x ∨ V.bool false = .test x) ∧ (V.test x = .test (decide (Qv a b d)) ∧ nameless (V.test x) = true) := fun h => ⟨false, .inl rfl, by rw [decide_eq_false h], rfl⟩
  intro _; refine ⟨fun g => ?_, fun g => ?_⟩
  rotate_left
  · have g := of_decide_eq_false (show decide (d ≥ 1) = false from g)
    intro _
    exact no (fun h => by have := h.1.1; omega)
  have g1 := of_decide_eq_true (show decide (d ≥ 1) = true from g)
  intro _; refine ⟨fun g => ?_, fun g => ?_⟩
  rotate_left
  · have g := of_decide_eq_false (show decide (d ≤ 16) = false from g)
    intro _
    exact no (fun h => by have := h.1.2; omega)
  have g2 := of_decide_eq_true (show decide (d ≤ 16) = true from g)
  intro _
  refine rcoord_test _ _ _ ?_
  intro _; refine ⟨fun g => ?_, fun g => ?_⟩
  rotate_left
  · have g := of_decide_eq_false (show decide (Cd a) = false from g)
    intro _
    exact no (fun h => g h.2.1)
  have g3 := of_decide_eq_true (show decide (Cd a) = true from g)
  intro _
  refine rcoord_test _ _ _ ?_
  intro _
  refine ⟨_, .inr rfl, ?_, rfl⟩
  have : decide (Qv a b d) = decide (Cd b) := by
    by_cases e : Cd b
    · rw [decide_eq_true e, decide_eq_true (show Qv a b d from ⟨⟨by omega, g2⟩, g3, e⟩)]
    · rw [decide_eq_false e, decide_eq_false (fun m : Qv a b d => e m.2.2)]
  rw [this]
theorem valid_ok (a b d : Int) : SemF Try.prog 14 [.agg (QA a b d)] ⟨0, 0, []⟩ (fun v _ => v = .test (decide (Qv a b d)) ∧ nameless v = true) := by
  refine SemF.test ?_
  refine enter tt_ok Try.func14 (nt := 21) (cd := body Try.f14) rfl rfl rfl rfl ?_
  have no : ¬ Qv a b d → ∃ x, (V.bool false = .bool x ∨ V.bool false = .test x) ∧ (V.test x = .test (decide (Qv a b d)) ∧ nameless (V.test x) = true) := fun h => ⟨false, .inl rfl, by rw [decide_eq_false h], rfl⟩
  intro _; refine ⟨fun g => ?_, fun g => ?_⟩
  rotate_left
  · have g := of_decide_eq_false (show decide (d ≥ 1) = false from g)
    intro _
    exact no (fun h => by have := h.1.1; omega)
  have g1 := of_decide_eq_true (show decide (d ≥ 1) = true from g)
  intro _; refine ⟨fun g => ?_, fun g => ?_⟩
  rotate_left
  · have g := of_decide_eq_false (show decide (d ≤ 16) = false from g)
    intro _
    exact no (fun h => by have := h.1.2; omega)
  have g2 := of_decide_eq_true (show decide (d ≤ 16) = true from g)
  intro _
  refine coord_test _ _ _ ?_
  intro _; refine ⟨fun g => ?_, fun g => ?_⟩
  rotate_left
  · have g := of_decide_eq_false (show decide (Cd a) = false from g)
    intro _
    exact no (fun h => g h.2.1)
  have g3 := of_decide_eq_true (show decide (Cd a) = true from g)
  intro _
  refine coord_test _ _ _ ?_
  intro _
  refine ⟨_, .inr rfl, ?_, rfl⟩
  have : decide (Qv a b d) = decide (Cd b) := by
    by_cases e : Cd b
    · rw [decide_eq_true e, decide_eq_true (show Qv a b d from ⟨⟨by omega, g2⟩, g3, e⟩)]
    · rw [decide_eq_false e, decide_eq_false (fun m : Qv a b d => e m.2.2)]
  rw [this]
def fl (n d : Int) : Int := if n.tmod d < 0 then n.tdiv d - 1 else n.tdiv d
theorem div_bd (n d : Int) (hd : 1 ≤ d) (M : Int) (h : -M ≤ n ∧ n ≤ M) : -M ≤ n.tdiv d ∧ n.tdiv d ≤ M := by
  have h1 := Int.natAbs_tdiv_le_natAbs n d
  have : (n.tdiv d).natAbs ≤ n.natAbs := h1
  omega
theorem fl_spec (n d : Int) (hd : 1 ≤ d) : d * fl n d ≤ n ∧ n < d * fl n d + d := by
  have h1 := Int.mul_tdiv_add_tmod n d
  have h2 : n.tmod d < d := Int.tmod_lt_of_pos n (by omega)
  have h3 : -d < n.tmod d := by
    have := Int.neg_tmod n d
    have h4 := Int.tmod_lt_of_pos (-n) (b := d) (by omega)
    rw [Int.neg_tmod] at h4
    omega
  unfold fl
  split
  · rw [Int.mul_sub, Int.mul_one]; omega
  · omega
theorem fl_bd (n d : Int) (hd : 1 ≤ d) (M : Int) (h : -M ≤ n ∧ n ≤ M) : -M - 1 ≤ fl n d ∧ fl n d ≤ M := by
  have := div_bd n d hd M h
  unfold fl
  split <;> omega
theorem rfloor_ok (n d : Int) (hd : 1 ≤ d) (hn : -1000000000000000 ≤ n ∧ n ≤ 1000000000000000) : SemF Try.prog 9 [.int .i64 n, .int .i64 d] ⟨0, 0, []⟩ (fun v _ => v = .int .i64 (fl n d) ∧ nameless v = true) := by
  have hb := div_bd n d hd _ hn
  have e1 : IntKind.i64.wrap (n.tdiv d) = n.tdiv d := wrapS _ ⟨by omega, by omega⟩
  have e2 : IntKind.i64.wrap (n.tdiv d - 1) = n.tdiv d - 1 := wrapS _ ⟨by omega, by omega⟩
  refine enter tt_ok Try.func9 (nt := 16) (cd := body Try.f9) rfl rfl rfl rfl ?_
  intro _; refine ⟨by omega, ?_⟩
  intro _; refine ⟨by omega, ?_⟩
  intro _; refine ⟨fun g => ?_, fun g => ?_⟩
  · have g := of_decide_eq_true (show decide (n.tmod d < 0) = true from g)
    intro _
    refine ⟨?_, rfl⟩
    unfold fl; rw [if_pos g]
    show V.int .i64 (IntKind.i64.wrap (IntKind.i64.wrap (n.tdiv d) - 1)) = _
    rw [e1, e2]
  · have g := of_decide_eq_false (show decide (n.tmod d < 0) = false from g)
    intro _
    refine ⟨?_, rfl⟩
    unfold fl; rw [if_neg g]
    show V.int .i64 (IntKind.i64.wrap (n.tdiv d)) = _
    rw [e1]
theorem floor_ok (n d : Int) (hd : 1 ≤ d) (hn : -1000000000000000 ≤ n ∧ n ≤ 1000000000000000) : SemF Try.prog 17 [.int .i64 n, .int .i64 d] ⟨0, 0, []⟩ (fun v _ => v = .int .i64 (fl n d) ∧ nameless v = true) := by
  have hb := div_bd n d hd _ hn
  have e1 : IntKind.i64.wrap (n.tdiv d) = n.tdiv d := wrapS _ ⟨by omega, by omega⟩
  have e2 : IntKind.i64.wrap (n.tdiv d - 1) = n.tdiv d - 1 := wrapS _ ⟨by omega, by omega⟩
  refine enter tt_ok Try.func17 (nt := 16) (cd := body Try.f17) rfl rfl rfl rfl ?_
  intro _; refine ⟨by omega, ?_⟩
  intro _; refine ⟨by omega, ?_⟩
  intro _; refine ⟨fun g => ?_, fun g => ?_⟩
  · have g := of_decide_eq_true (show decide (n.tmod d < 0) = true from g)
    intro _
    refine ⟨?_, rfl⟩
    unfold fl; rw [if_pos g]
    show V.int .i64 (IntKind.i64.wrap (IntKind.i64.wrap (n.tdiv d) - 1)) = _
    rw [e1, e2]
  · have g := of_decide_eq_false (show decide (n.tmod d < 0) = false from g)
    intro _
    refine ⟨?_, rfl⟩
    unfold fl; rw [if_neg g]
    show V.int .i64 (IntKind.i64.wrap (n.tdiv d)) = _
    rw [e1]
abbrev qv (a b d n : Int) : Int := fl (a * n + b) d
theorem mul_bd {a n : Int} (ha : Cd a) (hn : 0 ≤ n ∧ n ≤ 4001) : -4001000000000 ≤ a * n ∧ a * n ≤ 4001000000000 := by
  have h1 : -1000000000 * n ≤ a * n := Int.mul_le_mul_of_nonneg_right ha.1 hn.1
  have h2 : a * n ≤ 1000000000 * n := Int.mul_le_mul_of_nonneg_right ha.2 hn.1
  omega
theorem top_bd {a b n : Int} (ha : Cd a) (hb : Cd b) (hn : 0 ≤ n ∧ n ≤ 4001) : -4002000000000 ≤ a * n + b ∧ a * n + b ≤ 4002000000000 := by
  have := mul_bd ha hn
  have := hb.1; have := hb.2
  omega
theorem top_wrap {a b n : Int} (ha : Cd a) (hb : Cd b) (hn : 0 ≤ n ∧ n ≤ 4001) : IntKind.i64.wrap (IntKind.i64.wrap (a * n) + b) = a * n + b := by
  have h1 := mul_bd ha hn
  have h2 := top_bd ha hb hn
  rw [wrapS (a * n) ⟨by omega, by omega⟩, wrapS _ ⟨by omega, by omega⟩]
theorem value_ok (a b d n : Int) (h : Qv a b d) (hn : 0 ≤ n ∧ n ≤ 4001) : SemF Try.prog 11 [.agg (QA a b d), .int .i64 n] ⟨0, 0, []⟩ (fun v _ => v = .int .i64 (qv a b d n) ∧ nameless v = true) := by
  have hw := top_wrap h.2.1 h.2.2 hn
  have hb := top_bd h.2.1 h.2.2 hn
  refine enter tt_ok Try.func11 (nt := 15) (cd := body Try.f11) rfl rfl rfl rfl ?_
  intro _
  refine call_pure [] (rfloor_ok (a * n + b) d h.1.1 ⟨by omega, by omega⟩) rfl rfl rfl ?_ ?_ ?_
  · (repeat' first | exact trivial | exact rfl | refine And.intro ?_ ?_)
  · (repeat' first | exact trivial | exact rfl | refine And.intro ?_ ?_)
    exact hw.symm
  intro v hv _
  subst hv
  intro _
  exact ⟨rfl, rfl⟩
def atv (a b d n : Int) : V := if Qv a b d ∧ Pl n then .tup [.int .i64 (qv a b d n), .int .i64 0] else .tup [.int .i64 0, .int .i64 1]
theorem at_ok (a b d n : Int) : SemF Try.prog 8 [.agg (QA a b d), .int .i64 n] ⟨0, 0, []⟩ (fun v _ => v = atv a b d n ∧ nameless v = true) := by
  refine enter tt_ok Try.func8 (nt := 24) (cd := body Try.f8) rfl rfl rfl rfl ?_
  intro _
  refine call_pure [] (valid_ok a b d) rfl rfl rfl ?_ ?_ ?_
  · (repeat' first | exact trivial | exact rfl | refine And.intro ?_ ?_)
  · (repeat' first | exact trivial | exact rfl | refine And.intro ?_ ?_)
  intro v hv _
  subst hv
  intro _; refine ⟨fun g => ?_, fun g => ?_⟩
  · have g : (!decide (Qv a b d)) = true := g
    rw [Bool.not_eq_true'] at g
    have g := of_decide_eq_false g
    intro _
    refine ⟨?_, rfl⟩
    unfold atv; rw [if_neg (fun h => g h.1)]
  have g : (!decide (Qv a b d)) = false := g
  rw [Bool.not_eq_false'] at g
  have h := of_decide_eq_true g
  intro _
  refine place_test _ _ _ ?_
  intro _; refine ⟨fun g => ?_, fun g => ?_⟩
  · have g : (!decide (Pl n)) = true := g
    rw [Bool.not_eq_true'] at g
    have g := of_decide_eq_false g
    intro _
    refine ⟨?_, rfl⟩
    unfold atv; rw [if_neg (fun h => g h.2)]
  have g : (!decide (Pl n)) = false := g
  rw [Bool.not_eq_false'] at g
  have hp := of_decide_eq_true g
  have hn : 0 ≤ n ∧ n ≤ 4001 := ⟨hp.1, by have := hp.2; omega⟩
  have hw := top_wrap h.2.1 h.2.2 hn
  have hb := top_bd h.2.1 h.2.2 hn
  intro _
  refine call_pure [] (floor_ok (a * n + b) d h.1.1 ⟨by omega, by omega⟩) rfl rfl rfl ?_ ?_ ?_
  · (repeat' first | exact trivial | exact rfl | refine And.intro ?_ ?_)
  · (repeat' first | exact trivial | exact rfl | refine And.intro ?_ ?_)
    exact hw.symm
  intro v hv _
  subst hv
  intro _
  refine ⟨?_, rfl⟩
  unfold atv; rw [if_pos ⟨h, hp⟩]
theorem law3 (a b d n : Int) (hn0 : -9223372036854775808 ≤ n ∧ n ≤ 9223372036854775807) : SemF Try.prog 3 [.agg (QA a b d), .int .i64 n] ⟨0, 0, []⟩ (fun v _ => IsTrue v) := by
  refine enter tt_ok Try.func3 (nt := 108) (cd := body Try.f3) rfl rfl rfl rfl ?_
  intro _
  refine head_ok rfl Try.func5 (cd := body Try.f5) rfl ?_
  intro _
  refine call_pure [] (rvalid_ok a b d) rfl rfl rfl ?_ ?_ ?_
  · (repeat' first | exact trivial | exact rfl | refine And.intro ?_ ?_)
  · (repeat' first | exact trivial | exact rfl | refine And.intro ?_ ?_)
  intro v hv _
  subst hv
  intro _; refine ⟨fun g => ?_, fun g => ?_⟩
  · intro _
    show true = true
    rfl
  have g : (!decide (Qv a b d)) = false := g
  rw [Bool.not_eq_false'] at g
  have h := of_decide_eq_true g
  intro _
  refine rplace_test _ _ _ ?_
  intro _; refine ⟨fun g => ?_, fun g => ?_⟩
  · intro _
    show true = true
    rfl
  have g : (!decide (Pl n)) = false := g
  rw [Bool.not_eq_false'] at g
  have hp := of_decide_eq_true g
  intro _
  refine call_pure [] (at_ok a b d n) rfl rfl rfl ?_ ?_ ?_
  · (repeat' first | exact trivial | exact rfl | refine And.intro ?_ ?_)
  · (repeat' first | exact trivial | exact rfl | refine And.intro ?_ ?_)
  intro v hv _
  rw [show atv a b d n = .tup [.int .i64 (qv a b d n), .int .i64 0] by unfold atv; rw [if_pos ⟨h, hp⟩]] at hv
  subst hv
  have hn : 0 ≤ n ∧ n ≤ 4001 := ⟨hp.1, by have := hp.2; omega⟩
  have tb := top_bd h.2.1 h.2.2 hn
  have vb := fl_bd (a * n + b) d h.1.1 4002000000000 tb
  have vs := fl_spec (a * n + b) d h.1.1
  obtain ⟨v, hv⟩ : ∃ v, v = qv a b d n := ⟨_, rfl⟩
  have hv' : fl (a * n + b) d = v := hv.symm
  rw [hv'] at vb vs
  rw [show qv a b d n = v from hv']
  have hw := top_wrap h.2.1 h.2.2 hn
  have dv : -64100000000000 ≤ d * v ∧ d * v ≤ 64100000000000 := by have := h.1.1; have := h.1.2; omega
  have ew : IntKind.i64.wrap (d * v) = d * v := wrapS _ ⟨by omega, by omega⟩
  have ew2 : IntKind.i64.wrap (IntKind.i64.wrap (d * v) + d) = d * v + d := by rw [ew]; exact wrapS _ ⟨by omega, by have := h.1.2; omega⟩
  intro _; refine ⟨fun g => ?_, fun g => ?_⟩
  · exact absurd (show ((0 : Int) != 0) = true from g) (by decide)
  intro _; refine ⟨fun g => ?_, fun g => ?_⟩
  · have g := of_decide_eq_true (show decide (v > 5000000000000) = true from g)
    omega
  intro _; refine ⟨fun g => ?_, fun g => ?_⟩
  · have g := of_decide_eq_true (show decide (v < -5000000000000) = true from g)
    omega
  intro _; refine ⟨fun g => ?_, fun g => ?_⟩
  rotate_left
  · have g := of_decide_eq_false (show decide (IntKind.i64.wrap (d * v) ≤ IntKind.i64.wrap (IntKind.i64.wrap (a * n) + b)) = false from g)
    rw [hw, ew] at g
    omega
  intro _; refine ⟨fun g => ?_, fun g => ?_⟩
  · intro _
    have e : decide (IntKind.i64.wrap (IntKind.i64.wrap (a * n) + b) < IntKind.i64.wrap (IntKind.i64.wrap (d * v) + d)) = true := by rw [hw, ew2]; exact decide_eq_true (by omega)
    show decide (IntKind.i64.wrap (IntKind.i64.wrap (a * n) + b) < IntKind.i64.wrap (IntKind.i64.wrap (d * v) + d)) = true
    exact e
  have g := of_decide_eq_false (show decide (n = 4000) = false from g)
  have hn2 : 0 ≤ n + 1 ∧ n + 1 ≤ 4001 := by have := hp.1; have := hp.2; omega
  have hp2 : Pl (n + 1) := ⟨by omega, by have := hp.2; omega⟩
  have en : IntKind.i64.wrap (n + 1) = n + 1 := wrapS _ ⟨by omega, by omega⟩
  have tb2 := top_bd h.2.1 h.2.2 hn2
  have wb := fl_bd (a * (n + 1) + b) d h.1.1 4002000000000 tb2
  have ws := fl_spec (a * (n + 1) + b) d h.1.1
  obtain ⟨w, hw2⟩ : ∃ w, w = qv a b d (n + 1) := ⟨_, rfl⟩
  have hw' : fl (a * (n + 1) + b) d = w := hw2.symm
  rw [hw'] at wb ws
  intro _
  refine call_pure [] (at_ok a b d (n + 1)) rfl rfl rfl ?_ ?_ ?_
  · (repeat' first | exact trivial | exact rfl | refine And.intro ?_ ?_)
  · (repeat' first | exact trivial | exact rfl | refine And.intro ?_ ?_)
    exact en.symm
  intro v hv _
  rw [show atv a b d (n + 1) = .tup [.int .i64 w, .int .i64 0] by unfold atv; rw [if_pos ⟨h, hp2⟩, show qv a b d (n + 1) = w from hw']] at hv
  subst hv
  have ab : -1000000000 ≤ a ∧ a ≤ 1000000000 := h.2.1
  have sb := fl_bd a d h.1.1 1000000000 ab
  have ss := fl_spec a d h.1.1
  intro _
  refine call_pure [] (rfloor_ok a d h.1.1 ⟨by omega, by omega⟩) rfl rfl rfl ?_ ?_ ?_
  · (repeat' first | exact trivial | exact rfl | refine And.intro ?_ ?_)
  · (repeat' first | exact trivial | exact rfl | refine And.intro ?_ ?_)
  intro v hv _
  subst hv
  obtain ⟨s, hs⟩ : ∃ s, s = fl a d := ⟨_, rfl⟩
  rw [← hs] at sb ss ⊢
  have e1 : IntKind.i64.wrap (w - v) = w - v := wrapS _ ⟨by omega, by omega⟩
  have e2 : IntKind.i64.wrap (s + 1) = s + 1 := wrapS _ ⟨by omega, by omega⟩
  have ex : a * (n + 1) = a * n + a := by rw [Int.mul_add, Int.mul_one]
  rw [ex] at ws
  have dp : 1 ≤ d := h.1.1
  have key : 0 ≤ w - v - s ∧ w - v - s ≤ 1 := by
    have k1 : -d < d * (w - v - s) := by rw [Int.mul_sub, Int.mul_sub]; omega
    have k2 : d * (w - v - s) < 2 * d := by rw [Int.mul_sub, Int.mul_sub]; omega
    constructor
    · by_cases c : 0 ≤ w - v - s
      · exact c
      · have : d * (w - v - s) ≤ d * (-1) := Int.mul_le_mul_of_nonneg_left (by omega) (by omega)
        omega
    · by_cases c : w - v - s ≤ 1
      · exact c
      · have : d * 2 ≤ d * (w - v - s) := Int.mul_le_mul_of_nonneg_left (by omega) (by omega)
        omega
  intro _; refine ⟨fun g => ?_, fun g => ?_⟩
  rotate_left
  · have e : decide (IntKind.i64.wrap (IntKind.i64.wrap (a * n) + b) < IntKind.i64.wrap (IntKind.i64.wrap (d * v) + d)) = true := by rw [hw, ew2]; exact decide_eq_true (by omega)
    exact absurd (show decide (IntKind.i64.wrap (IntKind.i64.wrap (a * n) + b) < IntKind.i64.wrap (IntKind.i64.wrap (d * v) + d)) = false from g) (by rw [e]; decide)
  intro _; refine ⟨fun g => ?_, fun g => ?_⟩
  rotate_left
  · exact absurd (show ((0 : Int) == 0) = false from g) (by decide)
  intro _; refine ⟨fun g => ?_, fun g => ?_⟩
  · intro _
    first
    | (show true = true; rfl)
    | exact g
  have g := show (IntKind.i64.wrap (w - v) == s) = false from g
  rw [e1] at g
  have g := beq_eq_false_iff_ne.1 g
  intro _; refine ⟨fun g => ?_, fun g => ?_⟩
  rotate_left
  · have g := show (IntKind.i64.wrap (w - v) == IntKind.i64.wrap (s + 1)) = false from g
    rw [e1, e2] at g
    have g := beq_eq_false_iff_ne.1 g
    omega
  intro _; refine ⟨by omega, ?_⟩
  intro _
  have : a.tmod d ≠ 0 := by
    intro e
    have q1 := Int.mul_tdiv_add_tmod a d
    rw [e] at q1
    have q2 : s = a.tdiv d := by rw [hs]; unfold fl; rw [if_neg (by omega)]
    rw [← q2] at q1
    have k2 : d * (w - v - s) < d * 1 := by rw [Int.mul_sub, Int.mul_sub]; omega
    have : w - v - s < 1 := Int.lt_of_mul_lt_mul_left k2 (by omega)
    omega
  show (a.tmod d != 0) = true
  exact bne_iff_ne.2 this
theorem Below_ok (a b d a' b' d' last : Int) (h : Qv a b d) (h' : Qv a' b' d') (hl : Pl last) : SemF Try.prog 10 [.agg (QA a b d), .agg (QA a' b' d'), .int .i64 last] ⟨0, 0, []⟩ (fun v _ => ((∃ n : Int, 0 ≤ n ∧ n ≤ last ∧ qv a b d n < qv a' b' d' n ∧ (∀ k : Int, 0 ≤ k → k < n → ¬ qv a b d k < qv a' b' d' k) ∧ v = .tup [.int .i64 n, .bool true, .int .i64 0]) ∨ ((∀ k : Int, 0 ≤ k → k ≤ last → ¬ qv a b d k < qv a' b' d' k) ∧ v = .tup [.int .i64 0, .bool false, .int .i64 0])) ∧ nameless v = true) := by
  have el : IntKind.i64.wrap (last + 1) = last + 1 := wrapS _ (by have := hl.1; have := hl.2; constructor <;> omega)
  refine enter tt_ok Try.func10 (nt := 51) (cd := body Try.f10) rfl rfl rfl rfl ?_
  intro _
  refine call_pure [] (valid_ok a b d) rfl rfl rfl ?_ ?_ ?_
  · (repeat' first | exact trivial | exact rfl | refine And.intro ?_ ?_)
  · (repeat' first | exact trivial | exact rfl | refine And.intro ?_ ?_)
  intro v hv _
  subst hv
  intro _; refine ⟨fun g => ?_, fun g => ?_⟩
  · have g : (!decide (Qv a b d)) = true := g
    rw [Bool.not_eq_true'] at g
    exact absurd h (of_decide_eq_false g)
  intro _
  refine call_pure [] (valid_ok a' b' d') rfl rfl rfl ?_ ?_ ?_
  · (repeat' first | exact trivial | exact rfl | refine And.intro ?_ ?_)
  · (repeat' first | exact trivial | exact rfl | refine And.intro ?_ ?_)
  intro v hv _
  subst hv
  intro _; refine ⟨fun g => ?_, fun g => ?_⟩
  · have g : (!decide (Qv a' b' d')) = true := g
    rw [Bool.not_eq_true'] at g
    exact absurd h' (of_decide_eq_false g)
  intro _
  refine place_test _ _ _ ?_
  intro _; refine ⟨fun g => ?_, fun g => ?_⟩
  · have g : (!decide (Pl last)) = true := g
    rw [Bool.not_eq_true'] at g
    exact absurd hl (of_decide_eq_false g)
  intro _
  refine loop2 tt_ok [25] [] 2 (fun k : { k : Nat // (k : Int) ≤ last + 1 ∧ ∀ i : Int, 0 ≤ i → i < k → ¬ qv a b d i < qv a' b' d' i } => [(25, .int .i64 (k : Nat))]) (fun _ => []) (fun k => (last + 1 - k).toNat) ⟨0, by have := hl.1; omega, fun i h1 h2 => by omega⟩ ?_
  intro _
  refine ⟨⟨th [] 2, rfl, rfl, rfl, rfl, rfl, rfl, ?_, ?_⟩, ?_⟩
  · (repeat' first | exact trivial | exact rfl | refine And.intro ?_ ?_)
  · (repeat' first | exact trivial | exact rfl | refine And.intro ?_ ?_)
  intro ⟨k, hk, hmk⟩
  have := hl.1; have := hl.2
  intro _; refine ⟨fun g => ?_, fun g => ?_⟩
  rotate_left
  · have g := of_decide_eq_false (show decide ((k : Int) < IntKind.i64.wrap (last + 1)) = false from g)
    rw [el] at g
    intro _
    exact ⟨.inr ⟨fun i h1 h2 => hmk i h1 (by omega), rfl⟩, rfl⟩
  have g := of_decide_eq_true (show decide ((k : Int) < IntKind.i64.wrap (last + 1)) = true from g)
  rw [el] at g
  have hn : 0 ≤ (k : Int) ∧ (k : Int) ≤ 4001 := by omega
  have tb := top_bd h.2.1 h.2.2 hn
  have tb' := top_bd h'.2.1 h'.2.2 hn
  have tw := top_wrap h.2.1 h.2.2 hn
  have tw' := top_wrap h'.2.1 h'.2.2 hn
  have ek : IntKind.i64.wrap ((k : Int) + 1) = ((k + 1 : Nat) : Int) := wrap_nat k (by omega)
  intro _
  refine Or.inl ?_
  intro _
  refine call_pure [] (floor_ok (a * k + b) d h.1.1 ⟨by omega, by omega⟩) rfl rfl rfl ?_ ?_ ?_
  · (repeat' first | exact trivial | exact rfl | refine And.intro ?_ ?_)
  · (repeat' first | exact trivial | exact rfl | refine And.intro ?_ ?_)
    exact tw.symm
  intro v hv _
  subst hv
  intro _
  refine Or.inl ?_
  intro _
  refine call_pure [] (floor_ok (a' * k + b') d' h'.1.1 ⟨by omega, by omega⟩) rfl rfl rfl ?_ ?_ ?_
  · (repeat' first | exact trivial | exact rfl | refine And.intro ?_ ?_)
  · (repeat' first | exact trivial | exact rfl | refine And.intro ?_ ?_)
    exact tw'.symm
  intro v hv _
  subst hv
  intro _; refine ⟨by kernel_rfl, ?_⟩
  intro _; refine ⟨fun g => ?_, fun g => ?_⟩
  · have g2 := of_decide_eq_true (show decide (qv a b d k < qv a' b' d' k) = true from g)
    intro _
    exact ⟨.inl ⟨k, by omega, by omega, g2, hmk, rfl⟩, rfl⟩
  have g2 := of_decide_eq_false (show decide (qv a b d k < qv a' b' d' k) = false from g)
  refine ⟨⟨k + 1, by omega, fun i h1 h2 => ?_⟩, by show (last + 1 - ((k + 1 : Nat) : Int)).toNat < (last + 1 - (k : Int)).toNat; omega, th [] 2, rfl, rfl, rfl, rfl, rfl, rfl, ?_, ?_⟩
  · by_cases e : i = k
    · subst e; exact g2
    · exact hmk i h1 (by omega)
  · (repeat' first | exact trivial | exact rfl | refine And.intro ?_ ?_)
    exact ek.symm
  · (repeat' first | exact trivial | exact rfl | refine And.intro ?_ ?_)
theorem law4 (a b d a' b' d' z w : Int) (hz : 0 ≤ z ∧ z ≤ 65535) (hw : 0 ≤ w ∧ w ≤ 65535) : SemF Try.prog 4 [.agg (QA a b d), .agg (QA a' b' d'), .int .u16 z, .int .u16 w] ⟨0, 0, []⟩ (fun v _ => IsTrue v) := by
  refine enter tt_ok Try.func4 (nt := 86) (cd := body Try.f4) rfl rfl rfl rfl ?_
  intro _
  refine head_ok rfl Try.func5 (cd := body Try.f5) rfl ?_
  intro _
  refine call_pure [] (rvalid_ok a b d) rfl rfl rfl ?_ ?_ ?_
  · (repeat' first | exact trivial | exact rfl | refine And.intro ?_ ?_)
  · (repeat' first | exact trivial | exact rfl | refine And.intro ?_ ?_)
  intro v hv _
  subst hv
  intro _; refine ⟨fun g => ?_, fun g => ?_⟩
  · intro _
    show true = true
    rfl
  have g : (!decide (Qv a b d)) = false := g
  rw [Bool.not_eq_false'] at g
  have h := of_decide_eq_true g
  intro _
  refine call_pure [] (rvalid_ok a' b' d') rfl rfl rfl ?_ ?_ ?_
  · (repeat' first | exact trivial | exact rfl | refine And.intro ?_ ?_)
  · (repeat' first | exact trivial | exact rfl | refine And.intro ?_ ?_)
  intro v hv _
  subst hv
  intro _; refine ⟨fun g => ?_, fun g => ?_⟩
  · intro _
    show true = true
    rfl
  have g : (!decide (Qv a' b' d')) = false := g
  rw [Bool.not_eq_false'] at g
  have h' := of_decide_eq_true g
  have hz1 := Int.tmod_nonneg 4001 hz.1
  have hz2 := Int.tmod_lt_of_pos z (b := 4001) (by omega)
  have ez : IntKind.i64.wrap z = z := wrapS _ ⟨by omega, by omega⟩
  have ew : IntKind.i64.wrap w = w := wrapS _ ⟨by omega, by omega⟩
  obtain ⟨L, hL⟩ : ∃ L : Int, L = z.tmod 4001 := ⟨_, rfl⟩
  rw [← hL] at hz1 hz2
  have eL : (IntKind.i64.wrap z).tmod 4001 = L := by rw [ez, hL]
  have pL : Pl L := ⟨hz1, by omega⟩
  intro _; refine ⟨by omega, ?_⟩
  intro _
  refine call_pure [] (Below_ok a b d a' b' d' L h h' pL) rfl rfl rfl ?_ ?_ ?_
  · (repeat' first | exact trivial | exact rfl | refine And.intro ?_ ?_)
  · (repeat' first | exact trivial | exact rfl | refine And.intro ?_ ?_)
    exact eL.symm
  intro v hv _
  -- the last step: an index below the end, where the first one is not less
  have fin : ∀ (E : Int), 0 ≤ E → E ≤ 4000 → (∀ k : Int, 0 ≤ k → k ≤ E → ¬ qv a b d k < qv a' b' d' k) → 0 ≤ w.tmod (E + 1) ∧ w.tmod (E + 1) ≤ 4000 ∧ qv a b d (w.tmod (E + 1)) ≥ qv a' b' d' (w.tmod (E + 1)) := by
    intro E h0 h1 h2
    have k1 := Int.tmod_nonneg (E + 1) hw.1
    have k2 := Int.tmod_lt_of_pos w (b := E + 1) (by omega)
    have := h2 _ k1 (by omega)
    exact ⟨k1, by omega, by omega⟩
  rcases hv with ⟨n, n1, n2, n3, n4, rfl⟩ | ⟨hno, rfl⟩
  · intro _; refine ⟨fun g => ?_, fun g => ?_⟩
    · exact absurd (show ((0 : Int) != 0) = true from g) (by decide)
    intro _; refine ⟨fun g => ?_, fun g => ?_⟩
    · have g := of_decide_eq_true (show decide (n < 0) = true from g)
      omega
    intro _; refine ⟨fun g => ?_, fun g => ?_⟩
    · have g := of_decide_eq_true (show decide (n > (IntKind.i64.wrap z).tmod 4001) = true from g)
      rw [eL] at g
      omega
    have hn : 0 ≤ n ∧ n ≤ 4001 := by omega
    have en : IntKind.i64.wrap (n - 1) = n - 1 := wrapS _ ⟨by omega, by omega⟩
    have en2 : IntKind.i64.wrap (IntKind.i64.wrap (n - 1) + 1) = n - 1 + 1 := by rw [en]; exact wrapS _ ⟨by omega, by omega⟩
    intro _
    refine Or.inl ?_
    intro _
    refine call_pure [] (value_ok a b d n h hn) rfl rfl rfl ?_ ?_ ?_
    · (repeat' first | exact trivial | exact rfl | refine And.intro ?_ ?_)
    · (repeat' first | exact trivial | exact rfl | refine And.intro ?_ ?_)
    intro v hv _
    subst hv
    intro _
    refine Or.inl ?_
    intro _
    refine call_pure [] (value_ok a' b' d' n h' hn) rfl rfl rfl ?_ ?_ ?_
    · (repeat' first | exact trivial | exact rfl | refine And.intro ?_ ?_)
    · (repeat' first | exact trivial | exact rfl | refine And.intro ?_ ?_)
    intro v hv _
    subst hv
    intro _; refine ⟨by kernel_rfl, ?_⟩
    intro _; refine ⟨fun g => ?_, fun g => ?_⟩
    · intro _
      show decide (qv a b d n < qv a' b' d' n) = true
      exact decide_eq_true n3
    have g := of_decide_eq_false (show decide (IntKind.i64.wrap (n - 1) < 0) = false from g)
    rw [en] at g
    obtain ⟨f1, f2, f3⟩ := fin (n - 1) (by omega) (by omega) (fun k h1 h2 => n4 k h1 (by omega))
    have hk : 0 ≤ w.tmod (n - 1 + 1) ∧ w.tmod (n - 1 + 1) ≤ 4001 := ⟨f1, by omega⟩
    have ek : (IntKind.i64.wrap w).tmod (IntKind.i64.wrap (IntKind.i64.wrap (n - 1) + 1)) = w.tmod (n - 1 + 1) := by rw [ew, en2]
    intro _; refine ⟨by rw [en2]; omega, ?_⟩
    intro _; refine ⟨fun g => ?_, fun g => ?_⟩
    rotate_left
    · exact absurd (show decide (qv a b d n < qv a' b' d' n) = false from g) (by rw [decide_eq_true n3]; decide)
    intro _
    refine Or.inl ?_
    intro _
    refine call_pure [] (value_ok a b d _ h hk) rfl rfl rfl ?_ ?_ ?_
    · (repeat' first | exact trivial | exact rfl | refine And.intro ?_ ?_)
    · (repeat' first | exact trivial | exact rfl | refine And.intro ?_ ?_)
      exact ek.symm
    intro v hv _
    subst hv
    intro _
    refine Or.inl ?_
    intro _
    refine call_pure [] (value_ok a' b' d' _ h' hk) rfl rfl rfl ?_ ?_ ?_
    · (repeat' first | exact trivial | exact rfl | refine And.intro ?_ ?_)
    · (repeat' first | exact trivial | exact rfl | refine And.intro ?_ ?_)
      exact ek.symm
    intro v hv _
    subst hv
    intro _; refine ⟨by kernel_rfl, ?_⟩
    intro _
    show decide (qv a b d (w.tmod (n - 1 + 1)) ≥ qv a' b' d' (w.tmod (n - 1 + 1))) = true
    exact decide_eq_true f3
  · intro _; refine ⟨fun g => ?_, fun g => ?_⟩
    · exact absurd (show ((0 : Int) != 0) = true from g) (by decide)
    intro _; refine ⟨fun g => ?_, fun g => ?_⟩
    · exact absurd (show decide ((0 : Int) < 0) = true from g) (by decide)
    intro _; refine ⟨fun g => ?_, fun g => ?_⟩
    · have g := of_decide_eq_true (show decide (0 > (IntKind.i64.wrap z).tmod 4001) = true from g)
      rw [eL] at g
      omega
    have e2 : IntKind.i64.wrap ((IntKind.i64.wrap z).tmod 4001 + 1) = L + 1 := by rw [eL]; exact wrapS _ ⟨by omega, by omega⟩
    obtain ⟨f1, f2, f3⟩ := fin L (by omega) (by omega) hno
    have hk : 0 ≤ w.tmod (L + 1) ∧ w.tmod (L + 1) ≤ 4001 := ⟨f1, by omega⟩
    have ek : (IntKind.i64.wrap w).tmod (IntKind.i64.wrap ((IntKind.i64.wrap z).tmod 4001 + 1)) = w.tmod (L + 1) := by rw [ew, e2]
    intro _; refine ⟨fun g => ?_, fun g => ?_⟩
    · exact absurd (show ((0 : Int) != 0) = true from g) (by decide)
    intro _; refine ⟨fun g => ?_, fun g => ?_⟩
    · have g := of_decide_eq_true (show decide ((IntKind.i64.wrap z).tmod 4001 < 0) = true from g)
      rw [eL] at g
      omega
    intro _; refine ⟨by rw [e2]; omega, ?_⟩
    intro _
    refine Or.inl ?_
    intro _
    refine call_pure [] (value_ok a b d _ h hk) rfl rfl rfl ?_ ?_ ?_
    · (repeat' first | exact trivial | exact rfl | refine And.intro ?_ ?_)
    · (repeat' first | exact trivial | exact rfl | refine And.intro ?_ ?_)
      exact ek.symm
    intro v hv _
    subst hv
    intro _
    refine Or.inl ?_
    intro _
    refine call_pure [] (value_ok a' b' d' _ h' hk) rfl rfl rfl ?_ ?_ ?_
    · (repeat' first | exact trivial | exact rfl | refine And.intro ?_ ?_)
    · (repeat' first | exact trivial | exact rfl | refine And.intro ?_ ?_)
      exact ek.symm
    intro v hv _
    subst hv
    intro _; refine ⟨by kernel_rfl, ?_⟩
    intro _
    show decide (qv a b d (w.tmod (L + 1)) ≥ qv a' b' d' (w.tmod (L + 1))) = true
    exact decide_eq_true f3

def SV (x : Nat → Int) : List V := [.int .i64 (x 0), .int .i64 (x 1), .int .i64 (x 2)]
def SVA (x : Nat → Int) : List Go.Vm.AV := [.int .i64 (x 0), .int .i64 (x 1), .int .i64 (x 2)]
theorem SV_cv (x : Nat → Int) {n : Nat} {ν : Nu} : Cv n ν (.agg (SV x)) (.agg (SVA x)) := by
  simp only [Cv]
  exact ⟨SVA x, rfl, Cvs.cons mk_int (Cvs.cons mk_int (Cvs.cons mk_int (Cvs.nil)))⟩
set_option maxRecDepth 100000 in
theorem arr_of (cs : Array Value) (hs : cs.size = 3) (hc : ∀ i, i < 3 → ∃ n, cs[i]? = some (.int .i64 n)) : ∃ x : Nat → Int, ∀ ρ, Go.Vm.conv ρ (.agg (SVA x)) = some (.agg cs) := by
  refine ⟨fun i => match (cs[i]? : Option Value) with | some (Value.int _ n) => n | _ => (0 : Int), fun ρ => ?_⟩
  have h1 : Go.Vm.convs ρ (SVA fun i => match (cs[i]? : Option Value) with | some (Value.int _ n) => n | _ => (0 : Int)) = some cs.toList := by
    show Go.Vm.convs ρ ((List.range 3).map fun i => Go.Vm.AV.int .i64 (match (cs[i]? : Option Value) with | some (Value.int _ n) => n | _ => (0 : Int))) = _
    refine Go.Vm.convs_of_get (by simp [hs]) (fun i v hv => ?_)
    have hi : i < 3 := by
      rcases Nat.lt_or_ge i 3 with h | h
      · exact h
      · rw [List.getElem?_eq_none (by simpa using h)] at hv; cases hv
    obtain ⟨n, hn⟩ := hc i hi
    rw [List.getElem?_map, List.getElem?_range hi] at hv
    have hv : some (Go.Vm.AV.int .i64 (match (cs[i]? : Option Value) with | some (Value.int _ n) => n | _ => (0 : Int))) = some v := hv
    rw [hn] at hv
    cases hv
    exact ⟨.int .i64 n, rfl, by simpa using hn⟩
  simp only [Go.Vm.conv, h1]
  try simp
set_option maxRecDepth 100000 in
/-- what an array of integers is -/
theorem ints_of {w : World} {base : Nat} {v : Value} (h : Value.okWide Try.prog w .any base 23 v) : ∃ cs : Array Value, v = .agg cs ∧ cs.size = 3 ∧ ∀ i, i < 3 → ∃ n, cs[i]? = some (.int .i64 n) := by
  unfold Value.okWide at h
  rw [Try.underlying23] at h
  obtain ⟨cs, rfl, hs, ts, ht, _, hk⟩ := h
  have e1 : Try.prog.cellsOf 23 = 3 := by kernel_rfl
  have e2 : Try.prog.cellTypes Try.prog.depth 23 = some (List.replicate 3 3) := by kernel_rfl
  rw [e2] at ht
  simp only [Option.some.injEq] at ht
  subst ht
  refine ⟨cs, rfl, by rw [hs, e1], fun i hi => ?_⟩
  have hlt : i < cs.size := by rw [hs, e1]; exact hi
  obtain ⟨u, hu, hok⟩ := hk i cs[i] (by simp [hlt])
  have hu3 : u = 3 := by
    rw [List.length_replicate, Nat.mod_eq_of_lt hi, List.getElem?_replicate, if_pos hi] at hu
    exact (Option.some.inj hu).symm
  subst hu3
  have hv : Value.okWide Try.prog w .any base 3 cs[i] := by
    unfold Value.okWide
    rw [Try.underlying3]
    exact hok
  obtain ⟨n, hn⟩ := okWide_int Try.underlying3 hv
  exact ⟨n, by rw [← hn]; simp [hlt]⟩
theorem walk (w : World) (x : Nat → Int) (v_x : Value) (h_x : ∀ ρ, Go.Vm.conv ρ (.agg (SVA x)) = some v_x) (y : Nat → Int) (v_y : Value) (h_y : ∀ ρ, Go.Vm.conv ρ (.agg (SVA y)) = some v_y) (u1 : Int) (w_u1 : (Lit.int .u16 u1).wf = true) (u2 : Int) (w_u2 : (Lit.int .u16 u2).wf = true) :
    Calls Try.prog 4 #[v_x, v_y, .int .u16 u1, .int .u16 u2] w fun e w' => e = .returned (.bool true) ∧ Below w.heap.size w w' := by
  have b_u1 := w_u1
  simp [Lit.wf, IntKind.min, IntKind.max, IntKind.signed, IntKind.bits] at b_u1
  have b_u2 := w_u2
  simp [Lit.wf, IntKind.min, IntKind.max, IntKind.signed, IntKind.bits] at b_u2
  exact top_run (by kernel_rfl) (by kernel_rfl) (T := [5]) (fun f hf w => by
      rcases List.mem_cons.1 hf with e | e
      · subst e; exact head w
      · exact (List.not_mem_nil e).elim) (l := []) (args := [.agg (SV x), .agg (SV y), .int .u16 u1, .int .u16 u2]) («as» := [.agg (SVA x), .agg (SVA y), .int .u16 u1, .int .u16 u2]) (cargs := [v_x, v_y, .int .u16 u1, .int .u16 u2]) w
    (fun s h => by
      exact (List.not_mem_nil h).elim)
    (Cvs.cons (SV_cv x) (Cvs.cons (SV_cv y) (Cvs.cons mk_int (Cvs.cons mk_int Cvs.nil))))
    (by simp only [Go.Vm.convs, h_x, h_y]; try simp only [Go.Vm.conv])
    (law4 _ _ _ _ _ _ u1 u2 b_u1 b_u2)

set_option maxRecDepth 100000 in
theorem lifted (os : Os) (started : os.Started) (H : Type) (enc : TypeId × Value → H) :
    ReturnsInHanded {} Try.checked os 4 .any (Rows.quotBelowSpec.pre6 enc Try.prog Try.f4 Rows.quotBelowRow.domain false) (Rows.quotBelowSpec.post enc Try.prog Try.f4 false true false false) := by
  refine returnsInHanded_of_change (C := Try.checked) own started (by kernel_rfl) Try.func4
    (ChangeSpec.witness6 (enc := enc) (C := Try.checked) false ⟨#[], #[.agg (Array.replicate 3 (.int .i64 0)), .agg (Array.replicate 3 (.int .i64 0)), .int .u16 0, .int .u16 0], []⟩ 8 (by kernel_rfl) (by kernel_rfl) (by kernel_rfl) (by kernel_rfl)) ?_
  intro W base args ds gs before hval0 hW hcnd _
  have hval : ∀ (j : Nat) t v, Try.f4.params[j]? = some t → args[j]? = some v → Value.okWide Try.prog W .any base t v := hval0
  have hW' := hW
  obtain ⟨p, q, hA0, hV, rfl, hfz, hnd⟩ := hW
  have hA : DataW.TrodAll enc Try.prog W 0 (fun _ => true) true Try.f4.params.toList args.toList ds p := hA0
  rw [Try.params4] at hA hval
  obtain ⟨v0, vs0, d0, ds0, p0, q0, hargs, rfl, rfl, h0, r0⟩ := trodAll_cons hA
  obtain ⟨v1, vs1, d1, ds1, p1, q1, rfl, rfl, rfl, h1, r1⟩ := trodAll_cons r0
  obtain ⟨v2, vs2, d2, ds2, p2, q2, rfl, rfl, rfl, h2, r2⟩ := trodAll_cons r1
  obtain ⟨v3, vs3, d3, ds3, p3, q3, rfl, rfl, rfl, h3, r3⟩ := trodAll_cons r2
  obtain ⟨rfl, rfl, rfl⟩ := trodAll_nil r3
  obtain rfl : args = #[v0, v1, v2, v3] := by cases args; simp_all
  obtain ⟨rfl, rfl⟩ := trodVars_none hV
  obtain ⟨cs_x, rfl, hz_x, hc_x⟩ := ints_of (hval 0 23 v0 rfl rfl)
  obtain ⟨x, h_x⟩ := arr_of cs_x hz_x hc_x
  have hlt0 : ∀ x ∈ p0, x.block < W.heap.size := fun x hx => by simpa using hW'.lt x (by simp [hx])
  obtain ⟨cs_y, rfl, hz_y, hc_y⟩ := ints_of (hval 1 23 v1 rfl rfl)
  obtain ⟨y, h_y⟩ := arr_of cs_y hz_y hc_y
  have hlt1 : ∀ x ∈ p1, x.block < W.heap.size := fun x hx => by simpa using hW'.lt x (by simp [hx])
  obtain ⟨u1, rfl, rfl, rfl, w_u1⟩ := open_int Try.underlying32 (hval 2 32 v2 rfl rfl) h2
  obtain ⟨u2, rfl, rfl, rfl, w_u2⟩ := open_int Try.underlying32 (hval 3 32 v3 rfl rfl) h3
  clear hA0 hval0
  refine (walk W x (.agg cs_x) h_x y (.agg cs_y) h_y u1 w_u1 u2 w_u2).mono fun e W' ⟨he, hg⟩ => ?_
  subst he
  exact ⟨_, rfl, _, _, _, [], _, [], hW', trodAll_cons_mk (shut_bool Try.underlying4 _) trodAll_mk0, (trodAll_cons_mk (Below.trod laidOut (by kernel_rfl) (of_decide_eq_true (by kernel_rfl)) h0 hg hlt0) (trodAll_cons_mk (Below.trod laidOut (by kernel_rfl) (of_decide_eq_true (by kernel_rfl)) h1 hg hlt1) (trodAll_cons_mk (shut_int Try.underlying32 w_u1) (trodAll_cons_mk (shut_int Try.underlying32 w_u2) trodAll_mk0)))), rfl, hg.frame _, fun h => by cases h⟩

theorem over : Rows.quotBelowRow.holds Try.pinned (OpenSpec.ofChange Rows.quotBelowSpec) :=
  OpenClaim.holds_of_wide 4 Try.f4 rfl rfl rfl rfl rfl rfl rfl ⟨rfl, rfl, rfl, rfl, rfl⟩ rfl rfl rfl rfl rfl (by kernel_rfl) Try.func4 (by kernel_rfl)
    (of_decide_eq_true (by kernel_rfl)) (by unfold Func.isWrapper; first | (rw [if_pos (by decide +kernel)]; kernel_rfl) | (rw [if_neg (by decide +kernel)]; exact ⟨rfl, rfl⟩))
    (fun os started H enc _ => lifted os started H enc)

/-- the statement -/
theorem proved : Rows.QuotBelowSaid :=
  over
#print axioms proved
end Go.Proofs.Ytgpccmdcaknkgaa.quotBelow
