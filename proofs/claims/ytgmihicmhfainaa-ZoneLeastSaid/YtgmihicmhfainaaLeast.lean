/-
  ZoneLeast: whatever the arguments, the law returns true, and its arguments read as before. No conditions.
-/
import Derived.Test.YtgmihicmhfainaaRows
import Derived.Test.YtgmihicmhfainaaVwOpen2
import Derived.Test.YtgmihicmhfainaaVwRules7
import Derived.Test.YtgmihicmhfainaaVmFast3
import Derived.WalkKit
import Derived.ProofKit
import Derived.OpenShut
import Derived.Carry
import Derived.Test.YtgmihicmhfainaaHead
namespace Go.Proofs.Ytgmihicmhfainaa.zoneLeast
open Go.ChangeShapes Go.WideShapes Go.ChangeAt Go.RowKit
open Go.Vm (Facts Val Sound)
open Go.Vm2
set_option linter.unusedVariables false
set_option linter.unusedSectionVars false

theorem own : ownKnob Try.prog.godebug = none := by kernel_rfl
theorem laidOut : laidOutB Try.prog = true := by kernel_rfl
def ts : List Nat := [24, 26, 22, 43, 4, 3, 41, 69]
def tt : Go.Vm2.TT := [
  (24, ⟨(.struct [⟨0, 1, false⟩, ⟨1, 1, false⟩, ⟨2, 1, false⟩]), true, 3, .agg [.int .i64 (0), .int .i64 (0), .int .i64 (0)], true⟩),
  (26, ⟨(.int .i64), false, 1, .int .i64 (0), true⟩),
  (22, ⟨(.slice 43 5 40 [.int .i64, .int .i64, .int .i64, .int .i64, .int .i64]), false, 1, .nils, true⟩),
  (43, ⟨(.struct [⟨0, 1, false⟩, ⟨1, 2, true⟩, ⟨3, 2, true⟩]), true, 5, .agg [.int .i64 (0), .int .i64 (0), .int .i64 (0), .int .i64 (0), .int .i64 (0)], false⟩),
  (4, ⟨.bool, false, 1, .bool false, true⟩),
  (3, ⟨(.int .i64), false, 1, .int .i64 (0), true⟩),
  (41, ⟨(.struct [⟨0, 1, false⟩, ⟨1, 1, false⟩]), true, 2, .agg [.int .i64 (0), .int .i64 (0)], true⟩),
  (69, ⟨(.slice 3 1 8 [.int .i64]), false, 1, .nils, true⟩)]
theorem tt_mk : mkTT Try.prog ts = some tt := by kernel_rfl
theorem head (w : World) : Calls Try.prog 10 #[] w fun e w' => e = .returned (.bool true) ∧ Below w.heap.size w w' :=
  Go.Proofs.Ytgmihicmhfainaa.Head.head w
instance facts : Facts := ⟨[], [10], false⟩
instance val : Val := ⟨fun _ => 0⟩
instance sound : Sound := ⟨fun f hf => (List.not_mem_nil hf).elim⟩
theorem tt_ok : TTok Try.prog tt := ttok_mk tt_mk
def body (f : Func) : Code := match f.body with | some c => c | none => .skip
set_option maxRecDepth 100000
theorem wrap_nat (k : Nat) (h : k < 9223372036854775807) : IntKind.i64.wrap ((k : Int) + 1) = ((k + 1 : Nat) : Int) := by
  rw [IntKind.wrap_i64]; omega
theorem wrapS (n : Int) (h : -9000000000000000000 ≤ n ∧ n ≤ 9000000000000000000) : IntKind.i64.wrap n = n := by rw [IntKind.wrap_i64]; omega
abbrev Rows := List (List D)
def zl (l : Rows) (i : Nat) : Int := ((l.getD i []).getD 0 (D.n 0)).int
def zs (l : Rows) (i : Nat) : Int := ((l.getD i []).getD 1 (D.n 0)).int
def zt (l : Rows) (i : Nat) : Int := ((l.getD i []).getD 2 (D.n 0)).int
def zw (l : Rows) (i : Nat) : Int := ((l.getD i []).getD 3 (D.n 0)).int
def zx (l : Rows) (i : Nat) : Int := ((l.getD i []).getD 4 (D.n 0)).int
def Rd (w s la : Int) : Prop := (0 ≤ la ∧ la < 4) ∧ (50 ≤ s ∧ s ≤ 300) ∧ (200 ≤ w ∧ w ≤ 4000)
instance decRd (w s la : Int) : Decidable (Rd w s la) := inferInstanceAs (Decidable (_ ∧ _))
def Zr (la s t w x : Int) : Prop := (Rd w s la ∧ Rd x t la) ∧ s ≤ t ∧ w ≤ x
instance decZr (la s t w x : Int) : Decidable (Zr la s t w x) := inferInstanceAs (Decidable (_ ∧ _))
def Zn (l : Rows) (i : Nat) : Prop := Zr (zl l i) (zs l i) (zt l i) (zw l i) (zx l i)
instance decZn (l : Rows) (i : Nat) : Decidable (Zn l i) := inferInstanceAs (Decidable (Zr _ _ _ _ _))
def Zv (l : Rows) : Prop := l.length ≤ 1000 ∧ ∀ i, i < l.length → Zn l i
instance decZv (l : Rows) : Decidable (Zv l) := inferInstanceAs (Decidable (_ ∧ _))
def In (l : Rows) (i : Nat) (w s la : Int) : Prop := zl l i = la ∧ (zs l i ≤ s ∧ s ≤ zt l i) ∧ zw l i ≤ w ∧ w ≤ zx l i
instance decIn (l : Rows) (i : Nat) (w s la : Int) : Decidable (In l i w s la) := inferInstanceAs (Decidable (_ ∧ _))
theorem rd34_ok (w s la : Int) : SemF Try.prog 34 [.agg [.int .i64 w, .int .i64 s, .int .i64 la]] ⟨0, 0, []⟩ (fun v _ => v = .test (decide (Rd w s la)) ∧ nameless v = true) := by
  refine SemF.test ?_
  refine enter tt_ok Try.func34 (nt := 31) (cd := body Try.f34) rfl rfl rfl rfl ?_
  intro _; refine ⟨fun g => ?_, fun g => ?_⟩
  rotate_left
  · have g := of_decide_eq_false (show decide (la ≥ 0) = false from g)
    intro _
    exact ⟨false, .inl rfl, by rw [decide_eq_false (fun h : Rd w s la => g h.1.1)], rfl⟩
  have g0 := of_decide_eq_true (show decide (la ≥ 0) = true from g)
  intro _; refine ⟨fun g => ?_, fun g => ?_⟩
  rotate_left
  · have g := of_decide_eq_false (show decide (la < 4) = false from g)
    intro _
    exact ⟨false, .inl rfl, by rw [decide_eq_false (fun h : Rd w s la => g h.1.2)], rfl⟩
  have g1 := of_decide_eq_true (show decide (la < 4) = true from g)
  intro _; refine ⟨fun g => ?_, fun g => ?_⟩
  rotate_left
  · have g := of_decide_eq_false (show decide (s ≥ 50) = false from g)
    intro _
    exact ⟨false, .inl rfl, by rw [decide_eq_false (fun h : Rd w s la => g h.2.1.1)], rfl⟩
  have g2 := of_decide_eq_true (show decide (s ≥ 50) = true from g)
  intro _; refine ⟨fun g => ?_, fun g => ?_⟩
  rotate_left
  · have g := of_decide_eq_false (show decide (s ≤ 300) = false from g)
    intro _
    exact ⟨false, .inl rfl, by rw [decide_eq_false (fun h : Rd w s la => g h.2.1.2)], rfl⟩
  have g3 := of_decide_eq_true (show decide (s ≤ 300) = true from g)
  intro _; refine ⟨fun g => ?_, fun g => ?_⟩
  rotate_left
  · have g := of_decide_eq_false (show decide (w ≥ 200) = false from g)
    intro _
    exact ⟨false, .inl rfl, by rw [decide_eq_false (fun h : Rd w s la => g h.2.2.1)], rfl⟩
  have g4 := of_decide_eq_true (show decide (w ≥ 200) = true from g)
  intro _
  refine ⟨_, .inr rfl, ?_, rfl⟩
  have e : decide (Rd w s la) = decide (w ≤ 4000) := decide_eq_decide.2 ⟨fun h => h.2.2.2, fun h => ⟨⟨g0, g1⟩, ⟨g2, g3⟩, ⟨g4, h⟩⟩⟩
  rw [e]
theorem rd29_ok (w s la : Int) : SemF Try.prog 29 [.agg [.int .i64 w, .int .i64 s, .int .i64 la]] ⟨0, 0, []⟩ (fun v _ => v = .test (decide (Rd w s la)) ∧ nameless v = true) := by
  refine SemF.test ?_
  refine enter tt_ok Try.func29 (nt := 31) (cd := body Try.f29) rfl rfl rfl rfl ?_
  intro _; refine ⟨fun g => ?_, fun g => ?_⟩
  rotate_left
  · have g := of_decide_eq_false (show decide (la ≥ 0) = false from g)
    intro _
    exact ⟨false, .inl rfl, by rw [decide_eq_false (fun h : Rd w s la => g h.1.1)], rfl⟩
  have g0 := of_decide_eq_true (show decide (la ≥ 0) = true from g)
  intro _; refine ⟨fun g => ?_, fun g => ?_⟩
  rotate_left
  · have g := of_decide_eq_false (show decide (la < 4) = false from g)
    intro _
    exact ⟨false, .inl rfl, by rw [decide_eq_false (fun h : Rd w s la => g h.1.2)], rfl⟩
  have g1 := of_decide_eq_true (show decide (la < 4) = true from g)
  intro _; refine ⟨fun g => ?_, fun g => ?_⟩
  rotate_left
  · have g := of_decide_eq_false (show decide (s ≥ 50) = false from g)
    intro _
    exact ⟨false, .inl rfl, by rw [decide_eq_false (fun h : Rd w s la => g h.2.1.1)], rfl⟩
  have g2 := of_decide_eq_true (show decide (s ≥ 50) = true from g)
  intro _; refine ⟨fun g => ?_, fun g => ?_⟩
  rotate_left
  · have g := of_decide_eq_false (show decide (s ≤ 300) = false from g)
    intro _
    exact ⟨false, .inl rfl, by rw [decide_eq_false (fun h : Rd w s la => g h.2.1.2)], rfl⟩
  have g3 := of_decide_eq_true (show decide (s ≤ 300) = true from g)
  intro _; refine ⟨fun g => ?_, fun g => ?_⟩
  rotate_left
  · have g := of_decide_eq_false (show decide (w ≥ 200) = false from g)
    intro _
    exact ⟨false, .inl rfl, by rw [decide_eq_false (fun h : Rd w s la => g h.2.2.1)], rfl⟩
  have g4 := of_decide_eq_true (show decide (w ≥ 200) = true from g)
  intro _
  refine ⟨_, .inr rfl, ?_, rfl⟩
  have e : decide (Rd w s la) = decide (w ≤ 4000) := decide_eq_decide.2 ⟨fun h => h.2.2.2, fun h => ⟨⟨g0, g1⟩, ⟨g2, g3⟩, ⟨g4, h⟩⟩⟩
  rw [e]
set_option maxHeartbeats 2000000 in
theorem valid_ok (l : Rows) (hl : l.length ≤ 9223372036854775807) : SemF Try.prog 13 [.slc 0 5 0 l.length] ⟨1, 1, [(0, .arr [.int .i64, .int .i64, .int .i64, .int .i64, .int .i64] .rd (.recs l))]⟩ (fun v _ => v = .test (decide (Zv l)) ∧ nameless v = true) := by
  refine SemF.test ?_
  refine enter tt_ok Try.func13 (nt := 61) (cd := body Try.f13) rfl rfl rfl rfl ?_
  intro _; refine ⟨fun g => ?_, fun g => ?_⟩
  · have g := of_decide_eq_true (show decide ((l.length : Int) > 1000) = true from g)
    intro _
    exact ⟨false, .inl rfl, by rw [decide_eq_false (fun h : Zv l => by have := h.1; omega)], rfl⟩
  have g1 := of_decide_eq_false (show decide ((l.length : Int) > 1000) = false from g)
  intro _
  refine loop2 tt_ok [12] [] 1 (fun k : { k : Nat // k ≤ l.length ∧ ∀ i, i < k → Zn l i } => [(12, .int .i64 (k.1 : Nat))]) (fun _ => []) (fun k => l.length - k.1) ⟨0, by omega, fun i h => by omega⟩ ?_
  intro _
  refine ⟨⟨th [] 1, rfl, rfl, rfl, rfl, rfl, rfl, ?_, ?_⟩, ?_⟩
  · (repeat' first | exact trivial | exact rfl | refine And.intro ?_ ?_)
  · (repeat' first | exact trivial | exact rfl | refine And.intro ?_ ?_)
  intro ⟨k, hk, hm⟩
  have z : 0 + k = k := Nat.zero_add k
  intro _; refine ⟨fun g => ?_, fun g => ?_⟩
  rotate_left
  · have hkl := of_decide_eq_false (show decide ((k : Int) < (l.length : Int)) = false from g)
    obtain rfl : k = l.length := by omega
    intro _
    exact ⟨true, .inl rfl, by rw [decide_eq_true (show Zv l from ⟨by omega, hm⟩)], rfl⟩
  have hkl := of_decide_eq_true (show decide ((k : Int) < (l.length : Int)) = true from g)
  have bad : ¬ Zn l k → decide (Zv l) = false := fun h => decide_eq_false (fun hv => h (hv.2 k (by omega)))
  intro _; refine ⟨show 0 ≤ (k : Int) ∧ (k : Int) < (l.length : Int) by omega, ?_⟩
  intro _; refine ⟨show 0 + (k : Int).toNat < l.length by omega, ?_⟩
  intro _
  refine call_pure [] (rd34_ok (zw l (0 + k)) (zs l (0 + k)) (zl l (0 + k))) rfl rfl rfl ?_ ?_ ?_
  · (repeat' first | exact trivial | exact rfl | refine And.intro ?_ ?_)
  · (repeat' first | exact trivial | exact rfl | refine And.intro ?_ ?_)
  intro v hv _
  subst hv
  intro _; refine ⟨fun g => ?_, fun g => ?_⟩
  · have g : (!decide (Rd (zw l (0 + k)) (zs l (0 + k)) (zl l (0 + k)))) = true := g
    rw [z, Bool.not_eq_true'] at g
    have g := of_decide_eq_false g
    intro _
    exact ⟨false, .inl rfl, by rw [bad (fun h => g h.1.1)], rfl⟩
  have g : (!decide (Rd (zw l (0 + k)) (zs l (0 + k)) (zl l (0 + k)))) = false := g
  rw [z, Bool.not_eq_false'] at g
  have c1 := of_decide_eq_true g
  intro _
  refine call_pure [] (rd34_ok (zx l (0 + k)) (zt l (0 + k)) (zl l (0 + k))) rfl rfl rfl ?_ ?_ ?_
  · (repeat' first | exact trivial | exact rfl | refine And.intro ?_ ?_)
  · (repeat' first | exact trivial | exact rfl | refine And.intro ?_ ?_)
  intro v hv _
  subst hv
  intro _; refine ⟨fun g => ?_, fun g => ?_⟩
  · have g : (!decide (Rd (zx l (0 + k)) (zt l (0 + k)) (zl l (0 + k)))) = true := g
    rw [z, Bool.not_eq_true'] at g
    have g := of_decide_eq_false g
    intro _
    exact ⟨false, .inl rfl, by rw [bad (fun h => g h.1.2)], rfl⟩
  have g : (!decide (Rd (zx l (0 + k)) (zt l (0 + k)) (zl l (0 + k)))) = false := g
  rw [z, Bool.not_eq_false'] at g
  have c2 := of_decide_eq_true g
  intro _; refine ⟨fun g => ?_, fun g => ?_⟩
  · have g := of_decide_eq_true (show decide (zs l (0 + k) > zt l (0 + k)) = true from g)
    rw [z] at g
    intro _
    exact ⟨false, .inl rfl, by rw [bad (fun h => by have := h.2.1; omega)], rfl⟩
  have c3 := of_decide_eq_false (show decide (zs l (0 + k) > zt l (0 + k)) = false from g)
  rw [z] at c3
  intro _; refine ⟨fun g => ?_, fun g => ?_⟩
  · have g := of_decide_eq_true (show decide (zw l (0 + k) > zx l (0 + k)) = true from g)
    rw [z] at g
    intro _
    exact ⟨false, .inl rfl, by rw [bad (fun h => by have := h.2.2; omega)], rfl⟩
  have c4 := of_decide_eq_false (show decide (zw l (0 + k) > zx l (0 + k)) = false from g)
  rw [z] at c4
  refine ⟨⟨k + 1, by omega, fun i hi => ?_⟩, by show l.length - (k + 1) < l.length - k; omega, th [] 1, rfl, rfl, rfl, rfl, rfl, rfl, ?_, ?_⟩
  · by_cases e : i = k
    · subst e; exact ⟨⟨c1, c2⟩, by omega, by omega⟩
    · exact hm i (by omega)
  · (repeat' first | exact trivial | exact rfl | refine And.intro ?_ ?_)
    exact (wrap_nat k (by omega)).symm
  · (repeat' first | exact trivial | exact rfl | refine And.intro ?_ ?_)
theorem zone_ok (la s t w x : Int) : SemF Try.prog 38 [.agg [.int .i64 la, .int .i64 s, .int .i64 t, .int .i64 w, .int .i64 x]] ⟨0, 0, []⟩ (fun v _ => v = .test (decide (Zr la s t w x)) ∧ nameless v = true) := by
  refine SemF.test ?_
  refine enter tt_ok Try.func38 (nt := 47) (cd := body Try.f38) rfl rfl rfl rfl ?_
  intro _
  refine call_pure [] (rd29_ok w s la) rfl rfl rfl ?_ ?_ ?_
  · (repeat' first | exact trivial | exact rfl | refine And.intro ?_ ?_)
  · (repeat' first | exact trivial | exact rfl | refine And.intro ?_ ?_)
  intro v hv _
  subst hv
  intro _; refine ⟨fun g => ?_, fun g => ?_⟩
  rotate_left
  · have g := of_decide_eq_false (show decide (Rd w s la) = false from g)
    intro _
    exact ⟨false, .inl rfl, by rw [decide_eq_false (fun h : Zr la s t w x => g h.1.1)], rfl⟩
  have c1 := of_decide_eq_true (show decide (Rd w s la) = true from g)
  intro _
  refine call_pure [] (rd29_ok x t la) rfl rfl rfl ?_ ?_ ?_
  · (repeat' first | exact trivial | exact rfl | refine And.intro ?_ ?_)
  · (repeat' first | exact trivial | exact rfl | refine And.intro ?_ ?_)
  intro v hv _
  subst hv
  intro _; refine ⟨fun g => ?_, fun g => ?_⟩
  rotate_left
  · have g := of_decide_eq_false (show decide (Rd x t la) = false from g)
    intro _
    exact ⟨false, .inl rfl, by rw [decide_eq_false (fun h : Zr la s t w x => g h.1.2)], rfl⟩
  have c2 := of_decide_eq_true (show decide (Rd x t la) = true from g)
  intro _; refine ⟨fun g => ?_, fun g => ?_⟩
  rotate_left
  · have g := of_decide_eq_false (show decide (w ≤ x) = false from g)
    intro _
    exact ⟨false, .inl rfl, by rw [decide_eq_false (fun h : Zr la s t w x => g h.2.2)], rfl⟩
  have c3 := of_decide_eq_true (show decide (w ≤ x) = true from g)
  intro _
  refine ⟨_, .inr rfl, ?_, rfl⟩
  have e : decide (Zr la s t w x) = decide (s ≤ t) := decide_eq_decide.2 ⟨fun h => h.2.1, fun h => ⟨⟨c1, c2⟩, h, c3⟩⟩
  rw [e]
set_option maxHeartbeats 2000000 in
theorem rvalid_ok (l : Rows) (hl : l.length ≤ 9223372036854775807) : SemF Try.prog 14 [.slc 0 5 0 l.length] ⟨1, 1, [(0, .arr [.int .i64, .int .i64, .int .i64, .int .i64, .int .i64] .rd (.recs l))]⟩ (fun v _ => v = .test (decide (Zv l)) ∧ nameless v = true) := by
  refine SemF.test ?_
  refine enter tt_ok Try.func14 (nt := 19) (cd := body Try.f14) rfl rfl rfl rfl ?_
  intro _
  refine loop2 tt_ok [3] [] 1 (fun k : { k : Nat // k ≤ l.length ∧ ∀ i, i < k → Zn l i } => [(3, .int .i64 (k.1 : Nat))]) (fun _ => []) (fun k => l.length - k.1) ⟨0, by omega, fun i h => by omega⟩ ?_
  intro _
  refine ⟨⟨th [] 1, rfl, rfl, rfl, rfl, rfl, rfl, ?_, ?_⟩, ?_⟩
  · (repeat' first | exact trivial | exact rfl | refine And.intro ?_ ?_)
  · (repeat' first | exact trivial | exact rfl | refine And.intro ?_ ?_)
  intro ⟨k, hk, hm⟩
  have z : 0 + k = k := Nat.zero_add k
  intro _; refine ⟨fun g => ?_, fun g => ?_⟩
  rotate_left
  · have hkl := of_decide_eq_false (show decide ((k : Int) < (l.length : Int)) = false from g)
    obtain rfl : k = l.length := by omega
    intro _
    refine ⟨_, .inr rfl, ?_, rfl⟩
    have e : decide (Zv l) = decide ((l.length : Int) ≤ 1000) := decide_eq_decide.2 ⟨fun h => by have := h.1; omega, fun h => ⟨by omega, hm⟩⟩
    rw [e]
  have hkl := of_decide_eq_true (show decide ((k : Int) < (l.length : Int)) = true from g)
  intro _; refine ⟨show 0 ≤ (k : Int) ∧ (k : Int) < (l.length : Int) by omega, ?_⟩
  intro _; refine ⟨show 0 + (k : Int).toNat < l.length by omega, ?_⟩
  intro _
  refine call_pure [] (zone_ok (zl l (0 + k)) (zs l (0 + k)) (zt l (0 + k)) (zw l (0 + k)) (zx l (0 + k))) rfl rfl rfl ?_ ?_ ?_
  · (repeat' first | exact trivial | exact rfl | refine And.intro ?_ ?_)
  · (repeat' first | exact trivial | exact rfl | refine And.intro ?_ ?_)
  intro v hv _
  subst hv
  intro _; refine ⟨fun g => ?_, fun g => ?_⟩
  · have g : (!decide (Zn l (0 + k))) = true := g
    rw [z, Bool.not_eq_true'] at g
    have g := of_decide_eq_false g
    intro _
    exact ⟨false, .inl rfl, by rw [decide_eq_false (fun hv : Zv l => g (hv.2 k (by omega)))], rfl⟩
  have g : (!decide (Zn l (0 + k))) = false := g
  rw [z, Bool.not_eq_false'] at g
  have g := of_decide_eq_true g
  refine ⟨⟨k + 1, by omega, fun i hi => ?_⟩, by show l.length - (k + 1) < l.length - k; omega, th [] 1, rfl, rfl, rfl, rfl, rfl, rfl, ?_, ?_⟩
  · by_cases e : i = k
    · subst e; exact g
    · exact hm i (by omega)
  · (repeat' first | exact trivial | exact rfl | refine And.intro ?_ ?_)
    exact (wrap_nat k (by omega)).symm
  · (repeat' first | exact trivial | exact rfl | refine And.intro ?_ ?_)
theorem within_ok (a b n : Int) : SemF Try.prog 37 [.agg [.int .i64 a, .int .i64 b], .int .i64 n] ⟨0, 0, []⟩ (fun v _ => v = .test (decide (a ≤ n ∧ n ≤ b)) ∧ nameless v = true) := by
  refine SemF.test ?_
  refine enter tt_ok Try.func37 (nt := 15) (cd := body Try.f37) rfl rfl rfl rfl ?_
  intro _; refine ⟨fun g => ?_, fun g => ?_⟩
  rotate_left
  · have g := of_decide_eq_false (show decide (a ≤ n) = false from g)
    intro _
    exact ⟨false, .inl rfl, by rw [decide_eq_false (fun h : a ≤ n ∧ n ≤ b => g h.1)], rfl⟩
  have c1 := of_decide_eq_true (show decide (a ≤ n) = true from g)
  intro _
  refine ⟨_, .inr rfl, ?_, rfl⟩
  have e : decide (a ≤ n ∧ n ≤ b) = decide (n ≤ b) := decide_eq_decide.2 ⟨fun h => h.2, fun h => ⟨c1, h⟩⟩
  rw [e]
def hb (l : Rows) (w s la : Int) : Nat → Bool
  | 0 => false
  | k + 1 => hb l w s la k || decide (In l k w s la)
theorem hb_iff {l : Rows} {w s la : Int} : ∀ n, hb l w s la n = true ↔ ∃ i, i < n ∧ In l i w s la
  | 0 => ⟨(fun h => Bool.noConfusion (show false = true from h)), fun ⟨i, h, _⟩ => by omega⟩
  | k + 1 => by
    have ih := hb_iff (l := l) (w := w) (s := s) (la := la) k
    show (hb l w s la k || decide (In l k w s la)) = true ↔ _
    rw [Bool.or_eq_true, ih, decide_eq_true_iff]
    constructor
    · rintro (⟨i, h1, h2⟩ | h)
      · exact ⟨i, by omega, h2⟩
      · exact ⟨k, by omega, h⟩
    · rintro ⟨i, h1, h2⟩
      by_cases c : i = k
      · subst c; exact .inr h2
      · exact .inl ⟨i, by omega, h2⟩
def HQ (l : Rows) (w s la : Int) : V := if Zv l ∧ Rd w s la then .tup [.test (hb l w s la l.length), .int .i64 0] else .tup [.test false, .int .i64 1]
theorem HQ_bad {l : Rows} {w s la : Int} (e : ¬ (Zv l ∧ Rd w s la)) : V.tup [.test false, .int .i64 1] = HQ l w s la := (if_neg e).symm
theorem HQ_ok {l : Rows} {w s la : Int} (e : Zv l ∧ Rd w s la) : V.tup [.test (hb l w s la l.length), .int .i64 0] = HQ l w s la := (if_pos e).symm
set_option maxHeartbeats 4000000 in
theorem Has_ok (l : Rows) (w s la : Int) (hl : l.length ≤ 9223372036854775807) : SemF Try.prog 11 [.slc 0 5 0 l.length, .agg [.int .i64 w, .int .i64 s, .int .i64 la]] ⟨1, 1, [(0, .arr [.int .i64, .int .i64, .int .i64, .int .i64, .int .i64] .rd (.recs l))]⟩ (fun v _ => v = HQ l w s la ∧ nameless v = true) := by
  refine SemF.ret ?_
  refine enter tt_ok Try.func11 (nt := 17) (cd := body Try.f11) rfl rfl rfl rfl ?_
  intro _
  refine call_pure [(0, some 0)] (valid_ok l hl) rfl rfl rfl ?_ ?_ ?_
  · (repeat' first | exact trivial | exact rfl | refine And.intro ?_ ?_)
  · (repeat' first | exact trivial | exact rfl | refine And.intro ?_ ?_)
  intro v hv _
  subst hv
  intro _; refine ⟨fun g => ?_, fun g => ?_⟩
  · have g : (!decide (Zv l)) = true := g
    rw [Bool.not_eq_true'] at g
    have g := of_decide_eq_false g
    intro _
    refine ⟨[], .tup [.test (false), .int .i64 1], ⟨1, 1, []⟩, rfl, rfl, rfl, rfl, ?_, ?_, HQ_bad (fun h => g h.1), rfl⟩
    · (repeat' first | exact trivial | exact rfl | refine And.intro ?_ ?_)
    · (repeat' first | exact trivial | exact rfl | refine And.intro ?_ ?_)
  have g : (!decide (Zv l)) = false := g
  rw [Bool.not_eq_false'] at g
  have hV := of_decide_eq_true g
  have h1k := hV.1
  intro _
  refine call_pure [] (rd34_ok w s la) rfl rfl rfl ?_ ?_ ?_
  · (repeat' first | exact trivial | exact rfl | refine And.intro ?_ ?_)
  · (repeat' first | exact trivial | exact rfl | refine And.intro ?_ ?_)
  intro v hv _
  subst hv
  intro _; refine ⟨fun g => ?_, fun g => ?_⟩
  · have g : (!decide (Rd w s la)) = true := g
    rw [Bool.not_eq_true'] at g
    have g := of_decide_eq_false g
    intro _
    refine ⟨[], .tup [.test (false), .int .i64 1], ⟨1, 1, []⟩, rfl, rfl, rfl, rfl, ?_, ?_, HQ_bad (fun h => g h.2), rfl⟩
    · (repeat' first | exact trivial | exact rfl | refine And.intro ?_ ?_)
    · (repeat' first | exact trivial | exact rfl | refine And.intro ?_ ?_)
  have g : (!decide (Rd w s la)) = false := g
  rw [Bool.not_eq_false'] at g
  have hR := of_decide_eq_true g
  intro _
  refine enter tt_ok Try.func35 (nt := 9) (cd := body Try.f35) rfl rfl rfl rfl ?_
  intro _
  refine enter tt_ok Try.func52 (nt := 19) (cd := body Try.f52) rfl rfl rfl rfl ?_
  intro _
  refine loop2 tt_ok [8] [] 2 (fun k : { k : Nat // k ≤ l.length ∧ ∀ i, i < k → ¬ In l i w s la } => [(8, .int .i64 (k.1 : Nat))]) (fun _ => []) (fun k => l.length - k.1) ⟨0, by omega, fun i h => by omega⟩ ?_
  intro _
  refine ⟨⟨th [] 2, rfl, rfl, rfl, rfl, rfl, rfl, ?_, ?_⟩, ?_⟩
  · (repeat' first | exact trivial | exact rfl | refine And.intro ?_ ?_)
  · (repeat' first | exact trivial | exact rfl | refine And.intro ?_ ?_)
  intro ⟨k, hk, hm⟩
  have z : 0 + k = k := Nat.zero_add k
  intro _; refine ⟨fun g => ?_, fun g => ?_⟩
  rotate_left
  · have hkl := of_decide_eq_false (show decide ((k : Int) < (l.length : Int)) = false from g)
    obtain rfl : k = l.length := by omega
    have hF : hb l w s la l.length = false := by
      cases c : hb l w s la l.length with
      | false => rfl
      | true =>
        obtain ⟨i, h1, h2⟩ := (hb_iff _).1 c
        exact absurd h2 (hm i h1)
    intro _
    intro _
    intro _
    refine ⟨[], .tup [.test (hb l w s la l.length), .int .i64 0], ⟨1, 1, []⟩, rfl, rfl, rfl, rfl, ?_, ?_, HQ_ok ⟨hV, hR⟩, rfl⟩
    · (repeat' first | exact trivial | exact rfl | refine And.intro ?_ ?_)
      exact hF
    · (repeat' first | exact trivial | exact rfl | refine And.intro ?_ ?_)
  have hkl := of_decide_eq_true (show decide ((k : Int) < (l.length : Int)) = true from g)
  intro _; refine ⟨show 0 ≤ (k : Int) ∧ (k : Int) < (l.length : Int) by omega, ?_⟩
  intro _; refine ⟨show 0 + (k : Int).toNat < l.length by omega, ?_⟩
  intro _
  refine enter tt_ok Try.func36 (nt := 23) (cd := body Try.f36) rfl rfl rfl rfl ?_
  intro _; refine ⟨fun g => ?_, fun g => ?_⟩
  rotate_left
  · have g : (zl l (0 + k) == la) = false := g
    rw [z] at g
    have g : ¬ zl l k = la := by simpa using g
    intro _
    refine ⟨⟨k + 1, by omega, fun i hi => ?_⟩, by show l.length - (k + 1) < l.length - k; omega, th [] 2, rfl, rfl, rfl, rfl, rfl, rfl, ?_, ?_⟩
    · by_cases c : i = k
      · subst c; exact fun h => g h.1
      · exact hm i (by omega)
    · (repeat' first | exact trivial | exact rfl | refine And.intro ?_ ?_)
      exact (wrap_nat k (by omega)).symm
    · (repeat' first | exact trivial | exact rfl | refine And.intro ?_ ?_)
  have g : (zl l (0 + k) == la) = true := g
  rw [z] at g
  have c1 : zl l k = la := by simpa using g
  intro _
  refine call_pure [] (within_ok (zs l (0 + k)) (zt l (0 + k)) s) rfl rfl rfl ?_ ?_ ?_
  · (repeat' first | exact trivial | exact rfl | refine And.intro ?_ ?_)
  · (repeat' first | exact trivial | exact rfl | refine And.intro ?_ ?_)
  intro v hv _
  subst hv
  intro _; refine ⟨fun g => ?_, fun g => ?_⟩
  rotate_left
  · have g := of_decide_eq_false (show decide (zs l (0 + k) ≤ s ∧ s ≤ zt l (0 + k)) = false from g)
    rw [z] at g
    intro _
    refine ⟨⟨k + 1, by omega, fun i hi => ?_⟩, by show l.length - (k + 1) < l.length - k; omega, th [] 2, rfl, rfl, rfl, rfl, rfl, rfl, ?_, ?_⟩
    · by_cases c : i = k
      · subst c; exact fun h => g h.2.1
      · exact hm i (by omega)
    · (repeat' first | exact trivial | exact rfl | refine And.intro ?_ ?_)
      exact (wrap_nat k (by omega)).symm
    · (repeat' first | exact trivial | exact rfl | refine And.intro ?_ ?_)
  have c2 := of_decide_eq_true (show decide (zs l (0 + k) ≤ s ∧ s ≤ zt l (0 + k)) = true from g)
  rw [z] at c2
  intro _
  refine call_pure [] (within_ok (zw l (0 + k)) (zx l (0 + k)) w) rfl rfl rfl ?_ ?_ ?_
  · (repeat' first | exact trivial | exact rfl | refine And.intro ?_ ?_)
  · (repeat' first | exact trivial | exact rfl | refine And.intro ?_ ?_)
  intro v hv _
  subst hv
  intro _
  intro _; refine ⟨fun g => ?_, fun g => ?_⟩
  rotate_left
  · have g := of_decide_eq_false (show decide (zw l (0 + k) ≤ w ∧ w ≤ zx l (0 + k)) = false from g)
    rw [z] at g
    refine ⟨⟨k + 1, by omega, fun i hi => ?_⟩, by show l.length - (k + 1) < l.length - k; omega, th [] 2, rfl, rfl, rfl, rfl, rfl, rfl, ?_, ?_⟩
    · by_cases c : i = k
      · subst c; exact fun h => g h.2.2
      · exact hm i (by omega)
    · (repeat' first | exact trivial | exact rfl | refine And.intro ?_ ?_)
      exact (wrap_nat k (by omega)).symm
    · (repeat' first | exact trivial | exact rfl | refine And.intro ?_ ?_)
  have c3 := of_decide_eq_true (show decide (zw l (0 + k) ≤ w ∧ w ≤ zx l (0 + k)) = true from g)
  rw [z] at c3
  have hT : hb l w s la l.length = decide ((k : Int) ≥ 0) := by
    rw [(hb_iff _).2 ⟨k, by omega, c1, c2, c3⟩, decide_eq_true (by omega)]
  intro _
  intro _
  intro _
  refine ⟨[], .tup [.test (hb l w s la l.length), .int .i64 0], ⟨1, 1, []⟩, rfl, rfl, rfl, rfl, ?_, ?_, HQ_ok ⟨hV, hR⟩, rfl⟩
  · (repeat' first | exact trivial | exact rfl | refine And.intro ?_ ?_)
    exact hT
  · (repeat' first | exact trivial | exact rfl | refine And.intro ?_ ?_)
theorem nan_ok (n : Int) : SemF Try.prog 56 [.int .i64 n] ⟨0, 0, []⟩ (fun v _ => v = .test false ∧ nameless v = true) := by
  refine enter tt_ok Try.func56 (nt := 6) (cd := body Try.f56) rfl rfl rfl rfl ?_
  intro _
  exact ⟨by show V.test (n != n) = .test false; simp, rfl⟩
def cm (x y : Int) : Int := if x < y then -1 else if x > y then 1 else 0
theorem compare_ok (x y : Int) : SemF Try.prog 48 [.int .i64 x, .int .i64 y] ⟨0, 0, []⟩ (fun v _ => v = .int .i64 (cm x y) ∧ nameless v = true) := by
  refine enter tt_ok Try.func48 (nt := 20) (cd := body Try.f48) rfl rfl rfl rfl ?_
  intro _
  refine call_pure [] (nan_ok x) rfl rfl rfl ?_ ?_ ?_
  · (repeat' first | exact trivial | exact rfl | refine And.intro ?_ ?_)
  · (repeat' first | exact trivial | exact rfl | refine And.intro ?_ ?_)
  intro v hv _
  subst hv
  intro _
  refine call_pure [] (nan_ok y) rfl rfl rfl ?_ ?_ ?_
  · (repeat' first | exact trivial | exact rfl | refine And.intro ?_ ?_)
  · (repeat' first | exact trivial | exact rfl | refine And.intro ?_ ?_)
  intro v hv _
  subst hv
  intro _; refine ⟨fun g => ?_, fun g => ?_⟩
  · cases (show false = true from g)
  intro _; refine ⟨fun g => ?_, fun g => ?_⟩
  · cases (show false = true from g)
  intro _; refine ⟨fun g => ?_, fun g => ?_⟩
  · have g := of_decide_eq_true (show decide (x < y) = true from g)
    intro _
    exact ⟨by unfold cm; rw [if_pos g], rfl⟩
  have g1 := of_decide_eq_false (show decide (x < y) = false from g)
  intro _; refine ⟨fun g => ?_, fun g => ?_⟩
  · have g := of_decide_eq_true (show decide (x > y) = true from g)
    intro _
    exact ⟨by unfold cm; rw [if_neg g1, if_pos g], rfl⟩
  have g := of_decide_eq_false (show decide (x > y) = false from g)
  intro _
  exact ⟨by unfold cm; rw [if_neg g1, if_neg g], rfl⟩
def orr (x y u : Int) : Int := if x ≠ 0 then x else if y ≠ 0 then y else u
theorem or_ok (x y u : Int) : SemF Try.prog 47 [.slc 0 1 0 3] ⟨1, 1, [(0, .arr [.int .i64] .rd (.ints [x, y, u]))]⟩ (fun v _ => v = .int .i64 (orr x y u) ∧ nameless v = true) := by
  refine enter tt_ok Try.func47 (nt := 18) (cd := body Try.f47) rfl rfl rfl rfl ?_
  intro _
  refine loop_step tt_ok ?_
  intro _; refine ⟨fun _ => ?_, fun g => absurd g (by decide)⟩
  intro _; refine ⟨by decide, ?_⟩
  intro _; refine ⟨show (0 + (0 : Int).toNat : Nat) < 3 by decide, ?_⟩
  intro _; refine ⟨fun g => ?_, fun g => ?_⟩
  · have g := bne_iff_ne.1 (show (x != 0) = true from g)
    intro _
    exact ⟨by unfold orr; rw [if_pos g]; rfl, rfl⟩
  have g : (x != 0) = false := g
  have g1 : ¬ x ≠ 0 := fun h => by rw [bne_iff_ne.2 h] at g; cases g
  intro _
  refine loop_step tt_ok ?_
  intro _; refine ⟨fun _ => ?_, fun g => absurd g (by decide)⟩
  intro _; refine ⟨by decide, ?_⟩
  intro _; refine ⟨show (0 + (IntKind.i64.wrap (0 + 1)).toNat : Nat) < 3 by decide, ?_⟩
  intro _; refine ⟨fun g => ?_, fun g => ?_⟩
  · have g := bne_iff_ne.1 (show (y != 0) = true from g)
    intro _
    exact ⟨by unfold orr; rw [if_neg g1, if_pos g]; rfl, rfl⟩
  have g : (y != 0) = false := g
  have g2 : ¬ y ≠ 0 := fun h => by rw [bne_iff_ne.2 h] at g; cases g
  intro _
  refine loop_step tt_ok ?_
  intro _; refine ⟨fun _ => ?_, fun g => absurd g (by decide)⟩
  intro _; refine ⟨by decide, ?_⟩
  intro _; refine ⟨show (0 + (IntKind.i64.wrap (IntKind.i64.wrap (0 + 1) + 1)).toNat : Nat) < 3 by decide, ?_⟩
  intro _; refine ⟨fun g => ?_, fun g => ?_⟩
  · intro _
    exact ⟨by unfold orr; rw [if_neg g1, if_neg g2]; rfl, rfl⟩
  have g : (u != 0) = false := g
  have g3 : u = 0 := by
    by_cases h : u = 0
    · exact h
    · rw [bne_iff_ne.2 h] at g; cases g
  intro _
  refine loop_step tt_ok ?_
  intro _; refine ⟨fun g => absurd g (by decide), fun _ => ?_⟩
  intro _
  exact ⟨by unfold orr; rw [if_neg g1, if_neg g2, g3], rfl⟩
/-- one zone begins before another one -/
def Lt (a b c a2 b2 c2 : Int) : Prop := a < a2 ∨ (a = a2 ∧ (b < b2 ∨ (b = b2 ∧ c < c2)))
theorem orr_lt (a b c a2 b2 c2 : Int) : orr (cm a a2) (cm b b2) (cm c c2) < 0 ↔ Lt a b c a2 b2 c2 := by
  unfold orr cm Lt
  repeat' split
  all_goals omega
set_option maxHeartbeats 2000000 in
theorem less_ok (a b x c y a2 b2 x2 c2 y2 : Int) : SemF Try.prog 46 [.agg [.int .i64 a, .int .i64 b, .int .i64 x, .int .i64 c, .int .i64 y], .agg [.int .i64 a2, .int .i64 b2, .int .i64 x2, .int .i64 c2, .int .i64 y2]] ⟨0, 0, []⟩ (fun v _ => v = .int .i64 (orr (cm a a2) (cm b b2) (cm c c2)) ∧ nameless v = true) := by
  refine enter tt_ok Try.func46 (nt := 26) (cd := body Try.f46) rfl rfl rfl rfl ?_
  intro _; refine Or.inl ?_
  intro _
  refine call_pure [] (compare_ok a a2) rfl rfl rfl ?_ ?_ ?_
  · (repeat' first | exact trivial | exact rfl | refine And.intro ?_ ?_)
  · (repeat' first | exact trivial | exact rfl | refine And.intro ?_ ?_)
  intro v hv _
  subst hv
  intro _; refine Or.inl ?_
  intro _
  refine call_pure [] (compare_ok b b2) rfl rfl rfl ?_ ?_ ?_
  · (repeat' first | exact trivial | exact rfl | refine And.intro ?_ ?_)
  · (repeat' first | exact trivial | exact rfl | refine And.intro ?_ ?_)
  intro v hv _
  subst hv
  intro _; refine Or.inl ?_
  intro _
  refine call_pure [] (compare_ok c c2) rfl rfl rfl ?_ ?_ ?_
  · (repeat' first | exact trivial | exact rfl | refine And.intro ?_ ?_)
  · (repeat' first | exact trivial | exact rfl | refine And.intro ?_ ?_)
  intro v hv _
  subst hv
  intro _; refine Or.inl ?_
  intro _
  refine call_pure [(0, some 2)] (or_ok (cm a a2) (cm b b2) (cm c c2)) rfl rfl rfl ?_ ?_ ?_
  · (repeat' first | exact trivial | exact rfl | refine And.intro ?_ ?_)
  · (repeat' first | exact trivial | exact rfl | refine And.intro ?_ ?_)
  intro v hv _
  subst hv
  intro _; refine ⟨by kernel_rfl, ?_⟩
  intro _
  exact ⟨rfl, rfl⟩
def Mn (l : Rows) (i n : Nat) : Prop := ∀ j, j < n → ¬ Lt (zl l j) (zs l j) (zw l j) (zl l i) (zs l i) (zw l i)
instance decLt (a b c a2 b2 c2 : Int) : Decidable (Lt a b c a2 b2 c2) := inferInstanceAs (Decidable (_ ∨ _))
theorem Lt.irr (a b c : Int) : ¬ Lt a b c a b c := by unfold Lt; omega
abbrev MIx (l : Rows) := { x : Nat × Nat // x.2 < x.1 ∧ x.1 ≤ l.length ∧ Mn l x.2 x.1 }
def LP (l : Rows) (v : V) : Prop := (l.length = 0 ∧ v = .tup [.agg [.int .i64 0, .int .i64 0, .int .i64 0], .test false, .int .i64 0]) ∨ ∃ i, (i < l.length ∧ Mn l i l.length) ∧ v = .tup [.agg [.int .i64 (zw l i), .int .i64 (zs l i), .int .i64 (zl l i)], .test true, .int .i64 0]
set_option maxHeartbeats 4000000 in
theorem Least_ok (l : Rows) (hV : Zv l) : SemF Try.prog 24 [.slc 0 5 0 l.length] ⟨1, 1, [(0, .arr [.int .i64, .int .i64, .int .i64, .int .i64, .int .i64] .rd (.recs l))]⟩ (fun v _ => LP l v ∧ nameless v = true) := by
  have h1k := hV.1
  refine SemF.ret ?_
  refine enter tt_ok Try.func24 (nt := 25) (cd := body Try.f24) rfl rfl rfl rfl ?_
  intro _
  refine call_pure [(0, some 0)] (valid_ok l (by omega)) rfl rfl rfl ?_ ?_ ?_
  · (repeat' first | exact trivial | exact rfl | refine And.intro ?_ ?_)
  · (repeat' first | exact trivial | exact rfl | refine And.intro ?_ ?_)
  intro v hv _
  subst hv
  intro _; refine ⟨fun g => ?_, fun g => ?_⟩
  · exfalso
    have g : (!decide (Zv l)) = true := g
    rw [decide_eq_true hV] at g; cases g
  intro _; refine ⟨fun g => ?_, fun g => ?_⟩
  · have g : ((l.length : Int) == 0) = true := g
    have g : (l.length : Int) = 0 := by simpa using g
    intro _
    refine ⟨[], .tup [.agg [.int .i64 0, .int .i64 0, .int .i64 0], .test false, .int .i64 0], ⟨1, 1, []⟩, rfl, rfl, rfl, rfl, ?_, ?_, .inl ⟨by omega, rfl⟩, rfl⟩
    · (repeat' first | exact trivial | exact rfl | refine And.intro ?_ ?_)
    · (repeat' first | exact trivial | exact rfl | refine And.intro ?_ ?_)
  have g : ((l.length : Int) == 0) = false := g
  have hn : 1 ≤ l.length := by
    refine Nat.pos_of_ne_zero fun e => ?_
    rw [e] at g; simp at g
  intro _
  refine enter tt_ok Try.func45 (nt := 33) (cd := body Try.f45) rfl rfl rfl rfl ?_
  intro _; refine ⟨fun g => ?_, fun g => ?_⟩
  · exfalso
    have g := of_decide_eq_true (show decide ((l.length : Int) < 1) = true from g)
    omega
  intro _; refine ⟨show (0 : Int) ≤ 0 ∧ (0 : Int) < (l.length : Int) by omega, ?_⟩
  intro _; refine ⟨show 0 + (0 : Int).toNat < l.length by show 0 + 0 < l.length; omega, ?_⟩
  intro _
  refine loop2 tt_ok [6] [3] 4 (fun x : MIx l => [(6, .int .i64 (x.1.1 : Nat))]) (fun x => [(3, .cells [.int .i64 (zl l x.1.2), .int .i64 (zs l x.1.2), .int .i64 (zt l x.1.2), .int .i64 (zw l x.1.2), .int .i64 (zx l x.1.2)])]) (fun x => l.length - x.1.1) ⟨(1, 0), by show 0 < 1; omega, hn, fun j hj => by
    have hj : j < 1 := hj
    obtain rfl : j = 0 := by omega
    exact Lt.irr _ _ _⟩ ?_
  intro _
  refine ⟨⟨th [] 4, rfl, rfl, rfl, rfl, rfl, rfl, ?_, ?_⟩, ?_⟩
  · (repeat' first | exact trivial | exact rfl | refine And.intro ?_ ?_)
  · (repeat' first | exact trivial | exact rfl | refine And.intro ?_ ?_)
  intro ⟨⟨k, m⟩, hm, hk, hM⟩
  have hm : m < k := hm
  have hk : k ≤ l.length := hk
  have hM : Mn l m k := hM
  have z : 0 + k = k := Nat.zero_add k
  intro _; refine ⟨fun g => ?_, fun g => ?_⟩
  rotate_left
  · have hkl := of_decide_eq_false (show decide ((k : Int) < (l.length : Int)) = false from g)
    obtain rfl : k = l.length := by omega
    intro _
    intro _
    refine ⟨[], .tup [.agg [.int .i64 (zw l m), .int .i64 (zs l m), .int .i64 (zl l m)], .test true, .int .i64 0], ⟨1, 1, []⟩, rfl, rfl, rfl, rfl, ?_, ?_, .inr ⟨m, ⟨hm, hM⟩, rfl⟩, rfl⟩
    · (repeat' first | exact trivial | exact rfl | refine And.intro ?_ ?_)
    · (repeat' first | exact trivial | exact rfl | refine And.intro ?_ ?_)
  have hkl := of_decide_eq_true (show decide ((k : Int) < (l.length : Int)) = true from g)
  have i1 : 0 ≤ (k : Int) ∧ (k : Int) < (l.length : Int) := by omega
  have i2 : 0 + (k : Int).toNat < l.length := by omega
  intro _; refine ⟨i1, ?_⟩
  intro _; refine ⟨i2, ?_⟩
  intro _; refine Or.inl ?_
  intro _
  refine call_pure [] (less_ok (zl l (0 + k)) (zs l (0 + k)) (zt l (0 + k)) (zw l (0 + k)) (zx l (0 + k)) (zl l m) (zs l m) (zt l m) (zw l m) (zx l m)) rfl rfl rfl ?_ ?_ ?_
  · (repeat' first | exact trivial | exact rfl | refine And.intro ?_ ?_)
  · (repeat' first | exact trivial | exact rfl | refine And.intro ?_ ?_)
  intro v hv _
  subst hv
  intro _; refine ⟨by kernel_rfl, ?_⟩
  intro _; refine ⟨fun g => ?_, fun g => ?_⟩
  · have g := of_decide_eq_true (show decide (orr (cm (zl l (0 + k)) (zl l m)) (cm (zs l (0 + k)) (zs l m)) (cm (zw l (0 + k)) (zw l m)) < 0) = true from g)
    rw [z, orr_lt] at g
    intro _; refine ⟨i1, ?_⟩
    intro _; refine ⟨i2, ?_⟩
    refine ⟨⟨(k + 1, k), by show k < k + 1; omega, by show k + 1 ≤ l.length; omega, fun j hj => ?_⟩, by show l.length - (k + 1) < l.length - k; omega, th [] 4, rfl, rfl, rfl, rfl, rfl, rfl, ?_, ?_⟩
    · have hj : j < k + 1 := hj
      by_cases c : j = k
      · subst c; exact Lt.irr _ _ _
      · have := hM j (by omega)
        show ¬ Lt (zl l j) (zs l j) (zw l j) (zl l k) (zs l k) (zw l k)
        unfold Lt at g this ⊢
        omega
    · (repeat' first | exact trivial | exact rfl | refine And.intro ?_ ?_)
      exact (wrap_nat k (by omega)).symm
    · (repeat' first | exact trivial | exact rfl | refine And.intro ?_ ?_)
      · show zl l k = zl l (0 + k)
        rw [z]
      · show zs l k = zs l (0 + k)
        rw [z]
      · show zt l k = zt l (0 + k)
        rw [z]
      · show zw l k = zw l (0 + k)
        rw [z]
      · show zx l k = zx l (0 + k)
        rw [z]
  · have g := of_decide_eq_false (show decide (orr (cm (zl l (0 + k)) (zl l m)) (cm (zs l (0 + k)) (zs l m)) (cm (zw l (0 + k)) (zw l m)) < 0) = false from g)
    rw [z, orr_lt] at g
    refine ⟨⟨(k + 1, m), by show m < k + 1; omega, by show k + 1 ≤ l.length; omega, fun j hj => ?_⟩, by show l.length - (k + 1) < l.length - k; omega, th [] 4, rfl, rfl, rfl, rfl, rfl, rfl, ?_, ?_⟩
    · have hj : j < k + 1 := hj
      by_cases c : j = k
      · subst c; exact g
      · exact hM j (by omega)
    · (repeat' first | exact trivial | exact rfl | refine And.intro ?_ ?_)
      exact (wrap_nat k (by omega)).symm
    · (repeat' first | exact trivial | exact rfl | refine And.intro ?_ ?_)
theorem before_ok (a b c a2 b2 c2 : Int) : SemF Try.prog 31 [.agg [.int .i64 c, .int .i64 b, .int .i64 a], .agg [.int .i64 c2, .int .i64 b2, .int .i64 a2]] ⟨0, 0, []⟩ (fun v _ => v = .test (decide (Lt a b c a2 b2 c2)) ∧ nameless v = true) := by
  refine SemF.test ?_
  refine enter tt_ok Try.func31 (nt := 30) (cd := body Try.f31) rfl rfl rfl rfl ?_
  intro _; refine ⟨fun g => ?_, fun g => ?_⟩
  · have g := bne_iff_ne.1 (show (a != a2) = true from g)
    intro _
    refine ⟨_, .inr rfl, ?_, rfl⟩
    have e : decide (Lt a b c a2 b2 c2) = decide (a < a2) := decide_eq_decide.2 ⟨fun h => by unfold Lt at h; omega, .inl⟩
    rw [e]
  have g1 : a = a2 := by
    have g : (a != a2) = false := g
    simpa using g
  intro _; refine ⟨fun g => ?_, fun g => ?_⟩
  · have g := bne_iff_ne.1 (show (b != b2) = true from g)
    intro _
    refine ⟨_, .inr rfl, ?_, rfl⟩
    have e : decide (Lt a b c a2 b2 c2) = decide (b < b2) := decide_eq_decide.2 ⟨fun h => by unfold Lt at h; omega, fun h => .inr ⟨g1, .inl h⟩⟩
    rw [e]
  have g2 : b = b2 := by
    have g : (b != b2) = false := g
    simpa using g
  intro _
  refine ⟨_, .inr rfl, ?_, rfl⟩
  have e : decide (Lt a b c a2 b2 c2) = decide (c < c2) := decide_eq_decide.2 ⟨fun h => by unfold Lt at h; omega, fun h => .inr ⟨g1, .inr ⟨g2, h⟩⟩⟩
  rw [e]
theorem usable_ok (l : Rows) (hl : l.length ≤ 9223372036854775807) : SemF Try.prog 28 [.slc 0 5 0 l.length, .nils] ⟨1, 1, [(0, .arr [.int .i64, .int .i64, .int .i64, .int .i64, .int .i64] .rd (.recs l))]⟩ (fun v _ => v = .test (decide (l.length ≤ 24 ∧ Zv l)) ∧ nameless v = true) := by
  refine SemF.test ?_
  refine enter tt_ok Try.func28 (nt := 19) (cd := body Try.f28) rfl rfl rfl rfl ?_
  have e0 : IntKind.i64.wrap ((l.length : Int) + 0) = (l.length : Int) := by rw [IntKind.wrap_i64]; omega
  intro _; refine ⟨fun g => ?_, fun g => ?_⟩
  rotate_left
  · have g := of_decide_eq_false (show decide (IntKind.i64.wrap ((l.length : Int) + 0) ≤ 24) = false from g)
    rw [e0] at g
    intro _
    exact ⟨false, .inl rfl, by rw [decide_eq_false (fun h : l.length ≤ 24 ∧ Zv l => g (by have := h.1; omega))], rfl⟩
  have g1 := of_decide_eq_true (show decide (IntKind.i64.wrap ((l.length : Int) + 0) ≤ 24) = true from g)
  rw [e0] at g1
  intro _
  refine call_pure [(0, some 0)] (rvalid_ok l hl) rfl rfl rfl ?_ ?_ ?_
  · (repeat' first | exact trivial | exact rfl | refine And.intro ?_ ?_)
  · (repeat' first | exact trivial | exact rfl | refine And.intro ?_ ?_)
  intro v hv _
  subst hv
  intro _; refine ⟨fun g => ?_, fun g => ?_⟩
  rotate_left
  · have g := of_decide_eq_false (show decide (Zv l) = false from g)
    intro _
    exact ⟨false, .inl rfl, by rw [decide_eq_false (fun h : l.length ≤ 24 ∧ Zv l => g h.2)], rfl⟩
  have g2 := of_decide_eq_true (show decide (Zv l) = true from g)
  intro _
  refine call_pure [(0, none)] (rvalid_ok [] (by decide)) rfl rfl rfl ?_ ?_ ?_
  · (repeat' first | exact trivial | exact rfl | refine And.intro ?_ ?_)
  · (repeat' first | exact trivial | exact rfl | refine And.intro ?_ ?_)
  intro v hv _
  subst hv
  intro _
  refine ⟨_, .inr rfl, ?_, rfl⟩
  have e : decide (l.length ≤ 24 ∧ Zv l) = decide (Zv []) := by
    rw [decide_eq_true (show l.length ≤ 24 ∧ Zv l from ⟨by omega, g2⟩), decide_eq_true (show Zv [] from ⟨Nat.zero_le _, fun i hi => absurd hi (Nat.not_lt_zero _)⟩)]
  rw [e]
set_option maxHeartbeats 4000000 in
theorem law8 (l : Rows) (n0 n1 n2 : Int) (hl : List.length l ≤ 9223372036854775807) : SemF Try.prog 8 [.slc 0 5 0 l.length, .agg [.int .i64 n0, .int .i64 n1, .int .i64 n2]] ⟨1, 1, [(0, .arr [.int .i64, .int .i64, .int .i64, .int .i64, .int .i64] .ro (.recs l))]⟩ (fun v _ => IsTrue v) := by
  refine enter tt_ok Try.func8 (nt := 91) (cd := body Try.f8) rfl rfl rfl rfl ?_
  intro _
  refine head_ok rfl Try.func10 (cd := body Try.f10) rfl ?_
  intro _
  refine call_pure [(0, some 0)] (usable_ok l hl) rfl rfl rfl ?_ ?_ ?_
  · (repeat' first | exact trivial | exact rfl | refine And.intro ?_ ?_)
  · (repeat' first | exact trivial | exact rfl | refine And.intro ?_ ?_)
  intro v hv _
  subst hv
  intro _; refine ⟨fun g => ?_, fun g => ?_⟩
  · intro _
    show true = true
    rfl
  have g : (!decide (l.length ≤ 24 ∧ Zv l)) = false := g
  rw [Bool.not_eq_false'] at g
  obtain ⟨h24, hV⟩ := of_decide_eq_true g
  intro _
  refine call_pure [(0, some 0)] (Least_ok l hV) rfl rfl rfl ?_ ?_ ?_
  · (repeat' first | exact trivial | exact rfl | refine And.intro ?_ ?_)
  · (repeat' first | exact trivial | exact rfl | refine And.intro ?_ ?_)
  intro v hv _
  rcases hv with ⟨hn0, rfl⟩ | ⟨i, ⟨hi, hM⟩, rfl⟩
  · intro _; refine ⟨fun g => absurd g (by decide), fun _ => ?_⟩
    intro _; refine ⟨fun g => ?_, fun g => ?_⟩
    · exfalso
      have g : (!(false == decide ((l.length : Int) > 0))) = true := g
      rw [decide_eq_false (by omega)] at g; cases g
    intro _; refine ⟨fun _ => ?_, fun g => Bool.noConfusion (show true = false from g)⟩
    intro _
    show ((0 : Int) == 0 && ((0 : Int) == 0 && (0 : Int) == 0)) = true
    rfl
  intro _; refine ⟨fun g => absurd g (by decide), fun _ => ?_⟩
  intro _; refine ⟨fun g => ?_, fun g => ?_⟩
  · exfalso
    have g : (!(true == decide ((l.length : Int) > 0))) = true := g
    rw [decide_eq_true (by omega)] at g; cases g
  intro _; refine ⟨fun g => Bool.noConfusion (show false = true from g), fun _ => ?_⟩
  have hZ := hV.2 i hi
  have hIn : hb l (zw l i) (zs l i) (zl l i) l.length = true := (hb_iff _).2 ⟨i, hi, rfl, ⟨Int.le_refl _, hZ.2.1⟩, Int.le_refl _, hZ.2.2⟩
  intro _
  refine call_pure [(0, some 0)] (Has_ok l (zw l i) (zs l i) (zl l i) hl) rfl rfl rfl ?_ ?_ ?_
  · (repeat' first | exact trivial | exact rfl | refine And.intro ?_ ?_)
  · (repeat' first | exact trivial | exact rfl | refine And.intro ?_ ?_)
  intro v hv _
  rw [← HQ_ok ⟨hV, hZ.1.1⟩] at hv
  subst hv
  intro _; refine ⟨fun g => absurd g (by decide), fun _ => ?_⟩
  intro _; refine ⟨fun g => ?_, fun g => ?_⟩
  · exfalso
    have g : (!hb l (zw l i) (zs l i) (zl l i) l.length) = true := g
    rw [hIn] at g; cases g
  intro _
  refine call_pure [] (rd29_ok n0 n1 n2) rfl rfl rfl ?_ ?_ ?_
  · (repeat' first | exact trivial | exact rfl | refine And.intro ?_ ?_)
  · (repeat' first | exact trivial | exact rfl | refine And.intro ?_ ?_)
  intro v hv _
  subst hv
  intro _; refine ⟨fun g => ?_, fun g => ?_⟩
  · intro _; refine ⟨fun _ => ?_, fun g => absurd g (by decide)⟩
    intro _
    show hb l (zw l i) (zs l i) (zl l i) l.length = true
    exact hIn
  have g : (!decide (Rd n0 n1 n2)) = false := g
  rw [Bool.not_eq_false'] at g
  have hR := of_decide_eq_true g
  intro _
  refine call_pure [(0, some 0)] (Has_ok l n0 n1 n2 hl) rfl rfl rfl ?_ ?_ ?_
  · (repeat' first | exact trivial | exact rfl | refine And.intro ?_ ?_)
  · (repeat' first | exact trivial | exact rfl | refine And.intro ?_ ?_)
  intro v hv _
  rw [← HQ_ok ⟨hV, hR⟩] at hv
  subst hv
  intro _; refine ⟨fun _ => ?_, fun g => absurd g (by decide)⟩
  intro _; refine ⟨fun g => ?_, fun g => ?_⟩
  · intro _
    show true = true
    rfl
  have g : (!hb l n0 n1 n2 l.length) = false := g
  rw [Bool.not_eq_false'] at g
  obtain ⟨j, hj, h1, h2, h3⟩ := (hb_iff _).1 g
  intro _; refine ⟨fun g => ?_, fun g => ?_⟩
  · intro _
    show true = true
    rfl
  have g : (n0 == zw l i && (n1 == zs l i && n2 == zl l i)) = false := g
  intro _
  refine call_pure [] (before_ok (zl l i) (zs l i) (zw l i) n2 n1 n0) rfl rfl rfl ?_ ?_ ?_
  · (repeat' first | exact trivial | exact rfl | refine And.intro ?_ ?_)
  · (repeat' first | exact trivial | exact rfl | refine And.intro ?_ ?_)
  intro v hv _
  subst hv
  intro _
  show decide (Lt (zl l i) (zs l i) (zw l i) n2 n1 n0) = true
  refine decide_eq_true ?_
  have hM := hM j hj
  have hne : ¬ (n0 = zw l i ∧ n1 = zs l i ∧ n2 = zl l i) := fun h => by
    rw [h.1, h.2.1, h.2.2] at g; simp at g
  unfold Lt at hM ⊢
  omega

theorem agg_cv {n : Nat} {ν : Nu} {vs : List V} {as' : List Go.Vm.AV} (h : Cvs n ν vs as') : Cv n ν (.agg vs) (.agg as') := by
  simp only [Cv]; exact ⟨as', rfl, h⟩
def fieldsSt (P : Program) : Nat → List Field → List TypeId → Bool
  | _, [], [] => true
  | j, f :: fs, u :: us => Nat.beq f.offset j && Nat.beq (P.cellsOf f.type) 1 && Nat.beq f.type u && fieldsSt P (j + 1) fs us
  | _, _, _ => false
theorem fieldsSt_get {P : Program} : ∀ {fs : List Field} {ts : List TypeId} {j0 : Nat}, fieldsSt P j0 fs ts = true → ∀ (j : Nat) (u : TypeId), ts[j]? = some u → ∃ f, fs[j]? = some f ∧ f.offset = j0 + j ∧ P.cellsOf f.type = 1 ∧ f.type = u
  | [], [], _, _ => fun j u e => by simp at e
  | [], _ :: _, _, h => by simp [fieldsSt] at h
  | _ :: _, [], _, h => by simp [fieldsSt] at h
  | f :: fs, u :: us, j0, h => by
    simp only [fieldsSt, Bool.and_eq_true] at h
    obtain ⟨⟨⟨h1, h2⟩, h3⟩, h4⟩ := h
    intro j u' e
    cases j with
    | zero =>
      simp at e; subst e
      exact ⟨f, rfl, Nat.eq_of_beq_eq_true h1, Nat.eq_of_beq_eq_true h2, Nat.eq_of_beq_eq_true h3⟩
    | succ j =>
      simp at e
      obtain ⟨f', e1, e2, e3⟩ := fieldsSt_get h4 j u' e
      exact ⟨f', by simpa using e1, by rw [e2]; omega, e3⟩
theorem open_st {H : Type} {enc : TypeId × Value → H} {P : Program} {w : World} {base : Nat} {spare : Nat → Bool} {held : Bool} {r : Reach} {t : TypeId} {fs : Array Field} {ts : List TypeId} {v : Value} {d : DataW H} {p : List MemPlace} (ht : P.underlying t = some (.struct fs)) (hts : P.cellTypes P.depth t = some ts) (hC : P.cellsOf t = ts.length) (hf : fieldsSt P 0 fs.toList ts = true)
    (hval : Value.okWide P w r base t v) (h : DataW.Trod enc P w 0 spare held t v d p) :
    ∃ cs : Array Value, v = .agg cs ∧ cs.size = ts.length ∧ ∀ (j : Nat) (u : TypeId), ts[j]? = some u → ∃ x d' p' fuel, cs[j]? = some x ∧ Cell.okWide P w r base u x ∧ DataW.trod enc P w 0 spare held fuel u [x] = some (d', p') := by
  unfold Value.okWide at hval
  rw [ht] at hval
  obtain ⟨cs, rfl, hs, ts', ht', _, hk⟩ := hval
  rw [hts] at ht'
  simp only [Option.some.injEq] at ht'
  subst ht'
  obtain ⟨fuel, h⟩ := h
  obtain ⟨xs, n, _, _, hl, hxl, hf'⟩ := DataW.trod_struct ht h
  refine ⟨cs, rfl, by rw [hs, hC], fun j u hu => ?_⟩
  obtain ⟨f, e1, e2, e3, rfl⟩ := fieldsSt_get hf j u hu
  have hj : j < ts.length := (List.getElem?_eq_some_iff.1 hu).1
  have hjc : j < cs.size := by rw [hs, hC]; exact hj
  obtain ⟨u', hu', hok⟩ := hk j cs[j] (by simp [hjc])
  rw [Nat.mod_eq_of_lt hj, hu] at hu'
  cases hu'
  have e4 := hf' j f (by simpa using e1)
  rw [e2, e3, Nat.zero_add] at e4
  have e5 : ((Value.agg cs).cells.toList.drop j).take 1 = [cs[j]] := by
    show (cs.toList.drop j).take 1 = _
    rw [List.drop_eq_getElem_cons (by simpa using hjc)]; simp
  rw [e5] at e4
  have hjf : j < fs.toList.length := (List.getElem?_eq_some_iff.1 e1).1
  have hjx : j < xs.length := by rw [hxl]; simpa using hjf
  rw [List.getElem?_eq_getElem hjx] at e4
  exact ⟨cs[j], xs[j].1, xs[j].2, n, by simp [hjc], hok, e4⟩
theorem walk (w : World) (v_q0 : Value) (s_q0 : Src) (q0 : List (List Go.Vm2.D)) (cap_q0 : Nat) (hk_q0 : s_q0.ks = [.int .i64, .int .i64, .int .i64, .int .i64, .int .i64]) (ha_q0 : s_q0.ac = .recs q0) (hs_q0 : s_q0.lies w) (hn_q0 : s_q0.at_ = none → q0.length = 0) (hc_q0 : q0.length ≤ cap_q0) (hv_q0 : v_q0 = s_q0.val cap_q0) (hm_q0 : q0.length ≤ maxLen) (w_q0 : ∀ n ∈ q0, rowWf [.int .i64, .int .i64, .int .i64, .int .i64, .int .i64] n) (n0 : Int) (w_n0 : (Lit.int .i64 n0).wf = true) (n1 : Int) (w_n1 : (Lit.int .i64 n1).wf = true) (n2 : Int) (w_n2 : (Lit.int .i64 n2).wf = true) :
    Calls Try.prog 8 #[v_q0, .agg #[.int .i64 n0, .int .i64 n1, .int .i64 n2]] w fun e w' => e = .returned (.bool true) ∧ Below w.heap.size w w' := by
  obtain ⟨at_q0, ks_q0, ac_q0⟩ := s_q0
  simp only [] at hk_q0 ha_q0
  subst hk_q0 ha_q0
  have h_q0 : q0.length ≤ 9223372036854775807 := by unfold maxLen at hm_q0; omega
  have b_n0 := w_n0
  simp [Lit.wf, IntKind.min, IntKind.max, IntKind.signed, IntKind.bits] at b_n0
  have b_n1 := w_n1
  simp [Lit.wf, IntKind.min, IntKind.max, IntKind.signed, IntKind.bits] at b_n1
  have b_n2 := w_n2
  simp [Lit.wf, IntKind.min, IntKind.max, IntKind.signed, IntKind.bits] at b_n2
  exact top_run (by kernel_rfl) (by kernel_rfl) (T := [10]) (fun f hf w => by
      rcases List.mem_cons.1 hf with e | e
      · subst e; exact head w
      · exact (List.not_mem_nil e).elim) (l := [⟨at_q0, [.int .i64, .int .i64, .int .i64, .int .i64, .int .i64], .recs q0⟩]) (args := [.slc 0 5 0 q0.length, .agg [.int .i64 n0, .int .i64 n1, .int .i64 n2]]) («as» := [Src.av 0 cap_q0 ⟨at_q0, [.int .i64, .int .i64, .int .i64, .int .i64, .int .i64], .recs q0⟩, .agg [.int .i64 n0, .int .i64 n1, .int .i64 n2]]) (cargs := [v_q0, .agg #[.int .i64 n0, .int .i64 n1, .int .i64 n2]]) w
    (fun s h => by
      rcases List.mem_cons.1 h with e | h
      · subst e; exact hs_q0
      · exact (List.not_mem_nil h).elim)
    (Cvs.cons (src_cv (s := ⟨at_q0, [.int .i64, .int .i64, .int .i64, .int .i64, .int .i64], .recs q0⟩) rfl 5 hc_q0 hn_q0) (Cvs.cons (agg_cv (Cvs.cons mk_int (Cvs.cons mk_int (Cvs.cons mk_int Cvs.nil)))) Cvs.nil))
    (by simp only [Go.Vm.convs, Go.Vm.conv]; rw [src_conv (j := 0) (s := ⟨at_q0, [.int .i64, .int .i64, .int .i64, .int .i64, .int .i64], .recs q0⟩) rfl]; subst hv_q0; rfl)
    (law8 q0 n0 n1 n2 h_q0)

set_option maxRecDepth 100000 in
theorem lifted (os : Os) (started : os.Started) (H : Type) (enc : TypeId × Value → H) :
    ReturnsInHanded {} Try.checked os 8 .any (Rows.zoneLeastSpec.pre6 enc Try.prog Try.f8 Rows.zoneLeastRow.domain false) (Rows.zoneLeastSpec.post enc Try.prog Try.f8 false true false false) := by
  refine returnsInHanded_of_change (C := Try.checked) own started (by kernel_rfl) Try.func8
    (ChangeSpec.witness6 (enc := enc) (C := Try.checked) false ⟨#[], #[.slice none 0 0, .agg #[.int .i64 0, .int .i64 0, .int .i64 0]], []⟩ 8 (by kernel_rfl) (by kernel_rfl) (by kernel_rfl) (by kernel_rfl)) ?_
  intro W base args ds gs before hval0 hW hcnd _
  have hval : ∀ (j : Nat) t v, Try.f8.params[j]? = some t → args[j]? = some v → Value.okWide Try.prog W .any base t v := hval0
  have hW' := hW
  obtain ⟨p, q, hA0, hV, rfl, hfz, hnd⟩ := hW
  have hA : DataW.TrodAll enc Try.prog W 0 (fun _ => true) true Try.f8.params.toList args.toList ds p := hA0
  rw [Try.params8] at hA hval
  obtain ⟨v0, vs0, d0, ds0, p0, q0, hargs, rfl, rfl, h0, r0⟩ := trodAll_cons hA
  obtain ⟨v1, vs1, d1, ds1, p1, q1, rfl, rfl, rfl, h1, r1⟩ := trodAll_cons r0
  obtain ⟨rfl, rfl, rfl⟩ := trodAll_nil r1
  obtain rfl : args = #[v0, v1] := by cases args; simp_all
  obtain ⟨rfl, rfl⟩ := trodVars_none hV
  obtain ⟨s_q0, q0, cap_q0, hk_q0, ha_q0, hs_q0, hn_q0, hc_q0, hv_q0, hm_q0, w_q0⟩ := Go.Vm2.open_recsN (dp := 3) (ks := [.int .i64, .int .i64, .int .i64, .int .i64, .int .i64]) Try.underlying22 (by kernel_rfl) (by simp) (by kernel_rfl) (hval 0 22 v0 rfl rfl) h0
  have hlt0 : ∀ x ∈ p0, x.block < W.heap.size := fun x hx => by simpa using hW'.lt x (by simp [hx])
  obtain ⟨cs_rr, rfl, hz_rr, hs_rr⟩ := open_st (ts := [3, 3, 3]) Try.underlying24 (by kernel_rfl) (by kernel_rfl) (by kernel_rfl) (hval 1 24 v1 rfl rfl) h1
  have hlt1 : ∀ x ∈ p1, x.block < W.heap.size := fun x hx => by simpa using hW'.lt x (by simp [hx])
  obtain ⟨x_n0, d_n0, p_n0, fu_n0, hx_n0, hk0_n0, ht_n0⟩ := hs_rr 0 3 rfl
  have hkk_n0 : Value.okWide Try.prog W .any base 3 x_n0 := by unfold Value.okWide; rw [Try.underlying3]; exact hk0_n0
  obtain ⟨x_n1, d_n1, p_n1, fu_n1, hx_n1, hk0_n1, ht_n1⟩ := hs_rr 1 3 rfl
  have hkk_n1 : Value.okWide Try.prog W .any base 3 x_n1 := by unfold Value.okWide; rw [Try.underlying3]; exact hk0_n1
  obtain ⟨x_n2, d_n2, p_n2, fu_n2, hx_n2, hk0_n2, ht_n2⟩ := hs_rr 2 3 rfl
  have hkk_n2 : Value.okWide Try.prog W .any base 3 x_n2 := by unfold Value.okWide; rw [Try.underlying3]; exact hk0_n2
  have hcs_rr : cs_rr = #[x_n0, x_n1, x_n2] := by
    refine Array.ext (by rw [hz_rr]; rfl) fun i h1 h2 => ?_
    have hi : i < 3 := by simpa using h2
    rcases i with _ | _ | _ | i
    · have := hx_n0; rw [Array.getElem?_eq_getElem h1] at this; exact Option.some.inj this
    · have := hx_n1; rw [Array.getElem?_eq_getElem h1] at this; exact Option.some.inj this
    · have := hx_n2; rw [Array.getElem?_eq_getElem h1] at this; exact Option.some.inj this
    · omega
  subst hcs_rr
  obtain ⟨n0, hq_n0, _, w_n0⟩ := DataW.trod_int Try.underlying3 ht_n0
  simp only [List.cons.injEq, and_true] at hq_n0
  subst hq_n0
  obtain ⟨n1, hq_n1, _, w_n1⟩ := DataW.trod_int Try.underlying3 ht_n1
  simp only [List.cons.injEq, and_true] at hq_n1
  subst hq_n1
  obtain ⟨n2, hq_n2, _, w_n2⟩ := DataW.trod_int Try.underlying3 ht_n2
  simp only [List.cons.injEq, and_true] at hq_n2
  subst hq_n2
  clear hA0 hval0
  refine (walk W v0 s_q0 q0 cap_q0 hk_q0 ha_q0 hs_q0 hn_q0 hc_q0 hv_q0 hm_q0 w_q0 n0 w_n0 n1 w_n1 n2 w_n2).mono fun e W' ⟨he, hg⟩ => ?_
  subst he
  exact ⟨_, rfl, _, _, _, [], _, [], hW', trodAll_cons_mk (shut_bool Try.underlying4 _) trodAll_mk0, (trodAll_cons_mk (Below.trod laidOut (by kernel_rfl) (of_decide_eq_true (by kernel_rfl)) h0 hg hlt0) (trodAll_cons_mk (Below.trod laidOut (by kernel_rfl) (of_decide_eq_true (by kernel_rfl)) h1 hg hlt1) trodAll_mk0)), rfl, hg.frame _, fun h => by cases h⟩

theorem over : Rows.zoneLeastRow.holds Try.pinned (OpenSpec.ofChange Rows.zoneLeastSpec) :=
  OpenClaim.holds_of_wide 8 Try.f8 rfl rfl rfl rfl rfl rfl rfl ⟨rfl, rfl, rfl, rfl, rfl⟩ rfl rfl rfl rfl rfl (by kernel_rfl) Try.func8 (by kernel_rfl)
    (of_decide_eq_true (by kernel_rfl)) (by unfold Func.isWrapper; first | (rw [if_pos (by decide +kernel)]; kernel_rfl) | (rw [if_neg (by decide +kernel)]; exact ⟨rfl, rfl⟩))
    (fun os started H enc _ => lifted os started H enc)

/-- the statement -/
theorem proved : Rows.ZoneLeastSaid :=
  over
#print axioms proved
end Go.Proofs.Ytgmihicmhfainaa.zoneLeast
