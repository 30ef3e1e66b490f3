/-
  GridFirst: whatever the arguments, the law returns true, and its arguments read as before. No conditions.
-/
import Derived.Test.YtojkgickckchgabRows
import Derived.Test.YtojkgickckchgabVwOpen2
import Derived.Test.YtojkgickckchgabVwRules6
import Derived.Test.YtojkgickckchgabVmSym
import Derived.WalkKit
import Derived.ProofKit
import Derived.OpenShut
import Derived.Carry
namespace Go.Proofs.Ytojkgickckchgab.gridFirst
open Go.ChangeShapes Go.WideShapes Go.ChangeAt Go.RowKit
open Go.Vm (Facts Val Sound)
open Go.Vm2
set_option linter.unusedVariables false
set_option linter.unusedSectionVars false

theorem own : ownKnob Try.prog.godebug = none := by kernel_rfl
theorem laidOut : laidOutB Try.prog = true := by kernel_rfl
def ts : List Nat := [22, 41, 25, 4, 26, 3, 36, 43, 37, 5, 50, 51, 65, 58, 69, 75, 78, 88, 67, 151, 96, 98, 104, 106, 109]
def tt : Go.Vm2.TT := [
  (22, ⟨(.slice 41 5 40 [.int .i64, .int .i64, .int .i64, .int .i64, .int .i64]), false, 1, .nils, true⟩),
  (41, ⟨(.struct [⟨0, 1, false⟩, ⟨1, 1, false⟩, ⟨2, 1, false⟩, ⟨3, 1, false⟩, ⟨4, 1, false⟩]), true, 5, .agg [.int .i64 (0), .int .i64 (0), .int .i64 (0), .int .i64 (0), .int .i64 (0)], true⟩),
  (25, ⟨(.struct [⟨0, 1, false⟩, ⟨1, 1, false⟩]), true, 2, .agg [.int .i64 (0), .int .i64 (0)], true⟩),
  (4, ⟨.bool, false, 1, .bool false, true⟩),
  (26, ⟨(.int .i64), false, 1, .int .i64 (0), true⟩),
  (3, ⟨(.int .i64), false, 1, .int .i64 (0), true⟩),
  (36, ⟨(.slice 43 4 8 [.int .u8, .int .u16, .int .u16, .int .u16]), false, 1, .nils, true⟩),
  (43, ⟨(.struct [⟨0, 1, false⟩, ⟨1, 1, false⟩, ⟨2, 1, false⟩, ⟨3, 1, false⟩]), true, 4, .agg [.int .u8 (0), .int .u16 (0), .int .u16 (0), .int .u16 (0)], true⟩),
  (37, ⟨(.int .u16), false, 1, .int .u16 (0), true⟩),
  (5, ⟨(.int .u8), false, 1, .int .u8 (0), true⟩),
  (50, ⟨(.slice 3 1 8 [.int .i64]), false, 1, .nils, true⟩),
  (51, ⟨(.slice 65 2 16 [.int .i64, .int .i64]), false, 1, .nils, true⟩),
  (65, ⟨(.array 2 3 1), true, 2, .agg [.int .i64 (0), .int .i64 (0)], true⟩),
  (58, ⟨(.slice 69 7 72 [.int .i64, .int .i64, .int .i64, .int .i64, .int .i64, .bool, .nils]), false, 1, .nils, true⟩),
  (69, ⟨(.struct [⟨0, 1, false⟩, ⟨1, 1, false⟩, ⟨2, 1, false⟩, ⟨3, 1, false⟩, ⟨4, 1, false⟩, ⟨5, 1, false⟩, ⟨6, 1, false⟩]), true, 7, .agg [.int .i64 (0), .int .i64 (0), .int .i64 (0), .int .i64 (0), .int .i64 (0), .bool false, .nils], false⟩),
  (75, ⟨(.struct [⟨0, 1, false⟩, ⟨1, 1, false⟩]), true, 2, .agg [.int .i64 (0), .int .i64 (0)], true⟩),
  (78, ⟨(.struct [⟨0, 5, true⟩]), true, 5, .agg [.int .i64 (0), .int .i64 (0), .int .i64 (0), .int .i64 (0), .int .i64 (0)], false⟩),
  (88, ⟨(.map .i64 3), false, 1, .nilm, true⟩),
  (67, ⟨(.slice 151 5 48 [.str, .int .i64, .int .i64, .int .i64, .int .i64]), false, 1, .nils, true⟩),
  (151, ⟨(.struct [⟨0, 1, false⟩, ⟨1, 1, false⟩, ⟨2, 1, false⟩, ⟨3, 1, false⟩, ⟨4, 1, false⟩]), true, 5, .agg [.str [], .int .i64 (0), .int .i64 (0), .int .i64 (0), .int .i64 (0)], true⟩),
  (96, ⟨(.slice 98 3 24 [.int .i64, .int .i64, .int .i64]), false, 1, .nils, true⟩),
  (98, ⟨(.struct [⟨0, 1, false⟩, ⟨1, 1, false⟩, ⟨2, 1, false⟩]), true, 3, .agg [.int .i64 (0), .int .i64 (0), .int .i64 (0)], true⟩),
  (104, ⟨(.int .u64), false, 1, .int .u64 (0), true⟩),
  (106, ⟨(.map .i64 4), false, 1, .nilm, true⟩),
  (109, ⟨(.slice 4 1 1 [.bool]), false, 1, .nils, true⟩)]
theorem tt_mk : mkTT Try.prog ts = some tt := by kernel_rfl
theorem head (w : World) : Calls Try.prog 28 #[] w fun e w' => e = .returned (.bool true) ∧ Below w.heap.size w w' :=
  Go.Vm.head_run (by kernel_rfl) (by kernel_rfl) (n := 1000000) (by kernel_rfl) w
instance facts : Facts := ⟨[], [28], false⟩
instance val : Val := ⟨fun _ => 0⟩
instance sound : Sound := ⟨fun f hf => (List.not_mem_nil hf).elim⟩
theorem tt_ok : TTok Try.prog tt := ttok_mk tt_mk
def body (f : Func) : Code := match f.body with | some c => c | none => .skip
set_option maxRecDepth 100000
theorem wrap_nat (k : Nat) (h : k < 9223372036854775807) : IntKind.i64.wrap ((k : Int) + 1) = ((k + 1 : Nat) : Int) := by
  rw [IntKind.wrap_i64]; omega
theorem wrapS (n : Int) (h : -9000000000000000000 ≤ n ∧ n ≤ 9000000000000000000) : IntKind.i64.wrap n = n := by rw [IntKind.wrap_i64]; omega
abbrev Rows := List (List D)
def rtab (n : Nat) (f : Nat → List D) : Rows := (List.range n).map f
theorem rtab_len (n : Nat) (f : Nat → List D) : List.length (rtab n f) = n := by simp [rtab]
theorem rtab_get {n : Nat} (f : Nat → List D) {i : Nat} (h : i < n) : (rtab n f).getD i [] = f i := by
  unfold rtab; rw [List.getD_eq_getElem?_getD, List.getElem?_map, List.getElem?_range h]; rfl
theorem rtab_app (k : Nat) (f : Nat → List D) : rtab (k + 1) f = rtab k f ++ [f k] := by
  unfold rtab; rw [List.range_succ, List.map_append]; rfl
def at' (L : List Int) (i : Nat) : Int := L.getD i 0
def cellOf (C s : Int) (p : Int × Int) : Int × Int := if p.2 + min s C > C then (p.1 + 1, 0) else p
def nx (C : Int) (S : List Int) : Nat → Int × Int
  | 0 => (0, 0)
  | k + 1 => ((cellOf C (at' S k) (nx C S k)).1, (cellOf C (at' S k) (nx C S k)).2 + min (at' S k) C)
def cel (C : Int) (S : List Int) (k : Nat) : Int × Int := cellOf C (at' S k) (nx C S k)
def crow (C : Int) (S : List Int) (k : Nat) : List D := [D.n (cel C S k).1, D.n (cel C S k).2]
def SpOk (C : Int) (S : List Int) : Prop := S.length ≤ 4000 ∧ (1 ≤ C ∧ C ≤ 64) ∧ ∀ i, i < S.length → 1 ≤ at' S i ∧ at' S i ≤ 64
instance decSpOk (C : Int) (S : List Int) : Decidable (SpOk C S) := inferInstanceAs (Decidable (_ ∧ _))
def cl (C : Int) (S : List Int) : Rows × Int := if 4000 < S.length then ([], 2) else if SpOk C S then (rtab S.length (crow C S), 0) else ([], 1)
theorem nx_bd {C : Int} {S : List Int} (hC : 1 ≤ C ∧ C ≤ 64) : ∀ k : Nat, (∀ i, i < k → 1 ≤ at' S i ∧ at' S i ≤ 64) → 0 ≤ (nx C S k).1 ∧ (nx C S k).1 ≤ k ∧ 0 ≤ (nx C S k).2 ∧ (nx C S k).2 ≤ C
  | 0, _ => by simp [nx]; omega
  | k + 1, h => by
    obtain ⟨a, b, c, d⟩ := nx_bd hC k (fun i hi => h i (by omega))
    have := h k (by omega)
    simp only [nx, cellOf]
    split
    · simp only []; omega
    · omega
theorem cel_bd {C : Int} {S : List Int} (hC : 1 ≤ C ∧ C ≤ 64) {k : Nat} (h : ∀ i, i < k + 1 → 1 ≤ at' S i ∧ at' S i ≤ 64) : 0 ≤ (cel C S k).1 ∧ (cel C S k).1 ≤ k + 1 ∧ 0 ≤ (cel C S k).2 ∧ (cel C S k).2 + min (at' S k) C ≤ C := by
  obtain ⟨a, b, c, d⟩ := nx_bd hC k (fun i hi => h i (by omega))
  have := h k (by omega)
  unfold cel cellOf
  split
  · simp only []; omega
  · omega
def CQ (C : Int) (S : List Int) : V → H → Prop := fun v h' => v = .tup [.grw 1 (cl C S).1.length, .int .i64 (cl C S).2] ∧ h' = ⟨2, 1, [(1, .arr [.int .i64, .int .i64] .grow (.recs (cl C S).1))]⟩
abbrev SI' (S : List Int) := { k : Nat // k ≤ S.length ∧ ∀ i, i < k → 1 ≤ at' S i ∧ at' S i ≤ 64 }
theorem sidx {S : List Int} {k : Nat} (hm : ∀ i, i < k → 1 ≤ at' S i ∧ at' S i ≤ 64) (h : 1 ≤ at' S k ∧ at' S k ≤ 64) : ∀ i, i < k + 1 → 1 ≤ at' S i ∧ at' S i ≤ 64 := fun i hi => by
  by_cases e : i = k
  · subst e; exact h
  · exact hm i (by omega)
theorem cells_ok (C : Int) (S : List Int) (hl : S.length ≤ 9223372036854775807) : SemF Try.prog 29 [.int .i64 C, .slc 0 1 0 S.length] ⟨1, 1, [(0, .arr [.int .i64] .rd (.ints S))]⟩ (CQ C S) := by
  refine SemF.ret ?_
  refine enter tt_ok Try.func29 (nt := 56) (cd := body Try.f29) rfl rfl rfl rfl ?_
  have out : ∀ e : Int, cl C S = ([], e) → ∀ nx hx, Nat.ble 1 nx = true → Ret 1 (CQ C S) (.tup [.nils, .int .i64 e]) ⟨nx, 1, hx⟩ := fun e e1 nx hx hn => by
    refine ⟨[(1, none)], .tup [.grw 1 0, .int .i64 e], ⟨2, 1, [(1, .arr [.int .i64, .int .i64] .grow (.recs []))]⟩, rfl, rfl, rfl, rfl, ?_, ?_, ?_, ?_⟩
    · (repeat' first | exact trivial | exact rfl | refine And.intro ?_ ?_)
    · (repeat' first | exact trivial | exact rfl | refine And.intro ?_ ?_)
    · rw [e1]; rfl
    · rw [e1]
  intro _; refine ⟨fun g => ?_, fun g => ?_⟩
  · have g := of_decide_eq_true (show decide ((S.length : Int) > 4000) = true from g)
    intro _
    exact out 2 (by unfold cl; rw [if_pos (by omega)]) _ _ rfl
  have g1 := of_decide_eq_false (show decide ((S.length : Int) > 4000) = false from g)
  have bad : ¬ SpOk C S → cl C S = ([], 1) := fun h => by unfold cl; rw [if_neg (by omega), if_neg h]
  intro _; refine ⟨fun g => ?_, fun g => ?_⟩
  · have g := of_decide_eq_true (show decide (C < 1) = true from g)
    intro _
    exact out 1 (bad (fun h => by have := h.2.1; omega)) _ _ rfl
  have g2 := of_decide_eq_false (show decide (C < 1) = false from g)
  intro _; refine ⟨fun g => ?_, fun g => ?_⟩
  · have g := of_decide_eq_true (show decide (C > 64) = true from g)
    intro _
    exact out 1 (bad (fun h => by have := h.2.1; omega)) _ _ rfl
  have g3 := of_decide_eq_false (show decide (C > 64) = false from g)
  have hC : 1 ≤ C ∧ C ≤ 64 := by omega
  intro _
  refine loop2 tt_ok [22, 6] [1, 2] 3 (fun k : SI' S => [(22, .int .i64 (k : Nat)), (6, .grw 2 (k : Nat))]) (fun k => [(1, .cells [.int .i64 (nx C S k).1, .int .i64 (nx C S k).2]), (2, .arr [.int .i64, .int .i64] .grow (.recs (rtab (k : Nat) (crow C S))))]) (fun k => S.length - k) ⟨0, by omega, fun i h => by omega⟩ ?_
  intro _
  refine ⟨⟨th [(2, none)] 3, rfl, rfl, rfl, rfl, rfl, rfl, ?_, ?_⟩, ?_⟩
  · (repeat' first | exact trivial | exact rfl | refine And.intro ?_ ?_)
  · (repeat' first | exact trivial | exact rfl | refine And.intro ?_ ?_)
  intro ⟨k, hk, hmk⟩
  have z : 0 + k = k := Nat.zero_add k
  intro _; refine ⟨fun g => ?_, fun g => ?_⟩
  · have hkl := of_decide_eq_true (show decide ((k : Int) < (S.length : Int)) = true from g)
    have hb := nx_bd hC k hmk
    intro _; refine ⟨show 0 ≤ (k : Int) ∧ (k : Int) < (S.length : Int) by omega, ?_⟩
    intro _; refine ⟨show 0 + (k : Int).toNat < S.length by omega, ?_⟩
    intro _; refine ⟨fun g => ?_, fun g => ?_⟩
    · have g : decide (at' S (0 + k) < 1) = true := g
      rw [z] at g
      have g := of_decide_eq_true g
      intro _
      exact out 1 (bad (fun h => by have := h.2.2 k (by omega); omega)) _ _ rfl
    have g : decide (at' S (0 + k) < 1) = false := g
    rw [z] at g
    have s1 := of_decide_eq_false g
    intro _; refine ⟨fun g => ?_, fun g => ?_⟩
    · have g : decide (at' S (0 + k) > 64) = true := g
      rw [z] at g
      have g := of_decide_eq_true g
      intro _
      exact out 1 (bad (fun h => by have := h.2.2 k (by omega); omega)) _ _ rfl
    have g : decide (at' S (0 + k) > 64) = false := g
    rw [z] at g
    have s2 := of_decide_eq_false g
    have ek := (wrap_nat k (by omega)).symm
    have eA : IntKind.i64.wrap ((nx C S k).2 + min (at' S (0 + k)) C) = (nx C S k).2 + min (at' S k) C := by rw [z]; exact wrapS _ ⟨by omega, by omega⟩
    intro _; refine ⟨fun g => ?_, fun g => ?_⟩
    · have g : decide (IntKind.i64.wrap ((nx C S k).2 + min (at' S (0 + k)) C) > C) = true := g
      rw [eA] at g
      have g := of_decide_eq_true g
      have e1 : cel C S k = ((nx C S k).1 + 1, 0) := by unfold cel cellOf; rw [if_pos g]
      have e2 : nx C S (k + 1) = ((nx C S k).1 + 1, 0 + min (at' S k) C) := by
        show ((cel C S k).1, (cel C S k).2 + min (at' S k) C) = _
        rw [e1]
      have w1 : IntKind.i64.wrap ((nx C S k).1 + 1) = (nx C S k).1 + 1 := wrapS _ ⟨by omega, by omega⟩
      intro _; refine ⟨rfl, ?_⟩
      intro _; refine ⟨fun g3 => by simp at g3, fun _ => ?_⟩
      refine ⟨⟨(rtab_len k _).symm, show k + 1 ≤ 4611686018427387904 by omega, show (k + 1) * 16 ≤ 70368744177664 by omega⟩, ?_⟩
      refine ⟨⟨k + 1, by omega, sidx hmk ⟨by omega, by omega⟩⟩, by simp; omega, th [(2, some 4)] 3, rfl, rfl, rfl, rfl, rfl, rfl, ?_, ?_⟩
      · (repeat' first | exact trivial | exact rfl | refine And.intro ?_ ?_)
        exact ek
      · (repeat' first | exact trivial | exact rfl | refine And.intro ?_ ?_)
        · show (nx C S (k + 1)).1 = IntKind.i64.wrap ((nx C S k).1 + 1)
          rw [e2, w1]
        · show (nx C S (k + 1)).2 = IntKind.i64.wrap (0 + min (at' S (0 + k)) C)
          rw [e2, z, wrapS _ ⟨by omega, by omega⟩]
        · show rtab (k + 1) (crow C S) = rtab k (crow C S) ++ [[D.n (IntKind.i64.wrap ((nx C S k).1 + 1)), D.n 0]]
          rw [rtab_app, w1]; unfold crow; rw [e1]
    · have g : decide (IntKind.i64.wrap ((nx C S k).2 + min (at' S (0 + k)) C) > C) = false := g
      rw [eA] at g
      have g := of_decide_eq_false g
      have e1 : cel C S k = nx C S k := by unfold cel cellOf; rw [if_neg g]
      have e2 : nx C S (k + 1) = ((nx C S k).1, (nx C S k).2 + min (at' S k) C) := by
        show ((cel C S k).1, (cel C S k).2 + min (at' S k) C) = _
        rw [e1]
      intro _; refine ⟨rfl, ?_⟩
      intro _; refine ⟨fun g3 => by simp at g3, fun _ => ?_⟩
      refine ⟨⟨(rtab_len k _).symm, show k + 1 ≤ 4611686018427387904 by omega, show (k + 1) * 16 ≤ 70368744177664 by omega⟩, ?_⟩
      refine ⟨⟨k + 1, by omega, sidx hmk ⟨by omega, by omega⟩⟩, by simp; omega, th [(2, some 4)] 3, rfl, rfl, rfl, rfl, rfl, rfl, ?_, ?_⟩
      · (repeat' first | exact trivial | exact rfl | refine And.intro ?_ ?_)
        exact ek
      · (repeat' first | exact trivial | exact rfl | refine And.intro ?_ ?_)
        · show (nx C S (k + 1)).1 = (nx C S k).1
          rw [e2]
        · show (nx C S (k + 1)).2 = IntKind.i64.wrap ((nx C S k).2 + min (at' S (0 + k)) C)
          rw [e2, eA]
        · show rtab (k + 1) (crow C S) = rtab k (crow C S) ++ [[D.n (nx C S k).1, D.n (nx C S k).2]]
          rw [rtab_app]; unfold crow; rw [e1]
  · have hkl := of_decide_eq_false (show decide ((k : Int) < (S.length : Int)) = false from g)
    have hkl : k = S.length := by omega
    subst hkl
    have e1 : cl C S = (rtab S.length (crow C S), 0) := by unfold cl; rw [if_neg (by omega), if_pos ⟨by omega, hC, hmk⟩]
    intro _
    refine ⟨[(1, some 2)], .tup [.grw 1 (cl C S).1.length, .int .i64 (cl C S).2], ⟨2, 1, [(1, .arr [.int .i64, .int .i64] .grow (.recs (cl C S).1))]⟩, rfl, rfl, rfl, rfl, ?_, ?_, ⟨rfl, rfl⟩⟩
    · rw [e1]
      (repeat' first | exact trivial | exact rfl | refine And.intro ?_ ?_)
      exact rtab_len _ _
    · rw [e1]
      (repeat' first | exact trivial | exact rfl | refine And.intro ?_ ?_)
theorem rcells_ok (C : Int) (S : List Int) (hl : S.length ≤ 9223372036854775807) : SemF Try.prog 30 [.int .i64 C, .slc 0 1 0 S.length] ⟨1, 1, [(0, .arr [.int .i64] .rd (.ints S))]⟩ (CQ C S) := by
  refine SemF.ret ?_
  refine enter tt_ok Try.func30 (nt := 61) (cd := body Try.f30) rfl rfl rfl rfl ?_
  have out : ∀ e : Int, cl C S = ([], e) → ∀ nx hx, Nat.ble 1 nx = true → Ret 1 (CQ C S) (.tup [.nils, .int .i64 e]) ⟨nx, 1, hx⟩ := fun e e1 nx hx hn => by
    refine ⟨[(1, none)], .tup [.grw 1 0, .int .i64 e], ⟨2, 1, [(1, .arr [.int .i64, .int .i64] .grow (.recs []))]⟩, rfl, rfl, rfl, rfl, ?_, ?_, ?_, ?_⟩
    · (repeat' first | exact trivial | exact rfl | refine And.intro ?_ ?_)
    · (repeat' first | exact trivial | exact rfl | refine And.intro ?_ ?_)
    · rw [e1]; rfl
    · rw [e1]
  intro _; refine ⟨fun g => ?_, fun g => ?_⟩
  · have g := of_decide_eq_true (show decide ((S.length : Int) > 4000) = true from g)
    intro _
    exact out 2 (by unfold cl; rw [if_pos (by omega)]) _ _ rfl
  have g1 := of_decide_eq_false (show decide ((S.length : Int) > 4000) = false from g)
  have bad : ¬ SpOk C S → cl C S = ([], 1) := fun h => by unfold cl; rw [if_neg (by omega), if_neg h]
  intro _; refine ⟨fun g => ?_, fun g => ?_⟩
  · have g := of_decide_eq_true (show decide (C < 1) = true from g)
    intro _
    exact out 1 (bad (fun h => by have := h.2.1; omega)) _ _ rfl
  have g2 := of_decide_eq_false (show decide (C < 1) = false from g)
  intro _; refine ⟨fun g => ?_, fun g => ?_⟩
  · have g := of_decide_eq_true (show decide (C > 64) = true from g)
    intro _
    exact out 1 (bad (fun h => by have := h.2.1; omega)) _ _ rfl
  have g3 := of_decide_eq_false (show decide (C > 64) = false from g)
  have hC : 1 ≤ C ∧ C ≤ 64 := by omega
  intro _
  refine loop2 tt_ok [9, 6, 7, 8] [1] 2 (fun k : SI' S => [(9, .int .i64 (k : Nat)), (6, .grw 1 (k : Nat)), (7, .int .i64 (nx C S k).1), (8, .int .i64 (nx C S k).2)]) (fun k => [(1, .arr [.int .i64, .int .i64] .grow (.recs (rtab (k : Nat) (crow C S))))]) (fun k => S.length - k) ⟨0, by omega, fun i h => by omega⟩ ?_
  intro _
  refine ⟨⟨th [(1, none)] 2, rfl, rfl, rfl, rfl, rfl, rfl, ?_, ?_⟩, ?_⟩
  · (repeat' first | exact trivial | exact rfl | refine And.intro ?_ ?_)
  · (repeat' first | exact trivial | exact rfl | refine And.intro ?_ ?_)
  intro ⟨k, hk, hmk⟩
  have z : 0 + k = k := Nat.zero_add k
  intro _; refine ⟨fun g => ?_, fun g => ?_⟩
  · have hkl := of_decide_eq_true (show decide ((k : Int) < (S.length : Int)) = true from g)
    have hb := nx_bd hC k hmk
    have i1 : 0 ≤ (k : Int) ∧ (k : Int) < (S.length : Int) := by omega
    have i2 : 0 + (k : Int).toNat < S.length := by omega
    intro _; refine ⟨i1, ?_⟩
    intro _; refine ⟨i2, ?_⟩
    intro _; refine ⟨fun g => ?_, fun g => ?_⟩
    · have g : decide (at' S (0 + k) < 1) = true := g
      rw [z] at g
      have g := of_decide_eq_true g
      intro _
      exact out 1 (bad (fun h => by have := h.2.2 k (by omega); omega)) _ _ rfl
    have g : decide (at' S (0 + k) < 1) = false := g
    rw [z] at g
    have s1 := of_decide_eq_false g
    intro _; refine ⟨i1, ?_⟩
    intro _; refine ⟨i2, ?_⟩
    intro _; refine ⟨fun g => ?_, fun g => ?_⟩
    · have g : decide (at' S (0 + k) > 64) = true := g
      rw [z] at g
      have g := of_decide_eq_true g
      intro _
      exact out 1 (bad (fun h => by have := h.2.2 k (by omega); omega)) _ _ rfl
    have g : decide (at' S (0 + k) > 64) = false := g
    rw [z] at g
    have s2 := of_decide_eq_false g
    have ek := (wrap_nat k (by omega)).symm
    have eA : IntKind.i64.wrap ((nx C S k).2 + min (at' S (0 + k)) C) = (nx C S k).2 + min (at' S k) C := by rw [z]; exact wrapS _ ⟨by omega, by omega⟩
    intro _; refine ⟨i1, ?_⟩
    intro _; refine ⟨i2, ?_⟩
    intro _; refine ⟨fun g => ?_, fun g => ?_⟩
    · have g : decide (IntKind.i64.wrap ((nx C S k).2 + min (at' S (0 + k)) C) > C) = true := g
      rw [eA] at g
      have g := of_decide_eq_true g
      have e1 : cel C S k = ((nx C S k).1 + 1, 0) := by unfold cel cellOf; rw [if_pos g]
      have e2 : nx C S (k + 1) = ((nx C S k).1 + 1, 0 + min (at' S k) C) := by
        show ((cel C S k).1, (cel C S k).2 + min (at' S k) C) = _
        rw [e1]
      have w1 : IntKind.i64.wrap ((nx C S k).1 + 1) = (nx C S k).1 + 1 := wrapS _ ⟨by omega, by omega⟩
      intro _; refine ⟨rfl, ?_⟩
      intro _; refine ⟨fun g3 => by simp at g3, fun _ => ?_⟩
      refine ⟨⟨(rtab_len k _).symm, show k + 1 ≤ 4611686018427387904 by omega, show (k + 1) * 16 ≤ 70368744177664 by omega⟩, ?_⟩
      refine ⟨⟨k + 1, by omega, sidx hmk ⟨by omega, by omega⟩⟩, by simp; omega, th [(1, some 3)] 2, rfl, rfl, rfl, rfl, rfl, rfl, ?_, ?_⟩
      · (repeat' first | exact trivial | exact rfl | refine And.intro ?_ ?_)
        · exact ek
        · show (nx C S (k + 1)).1 = IntKind.i64.wrap ((nx C S k).1 + 1)
          rw [e2, w1]
        · show (nx C S (k + 1)).2 = IntKind.i64.wrap (0 + min (at' S (0 + k)) C)
          rw [e2, z, wrapS _ ⟨by omega, by omega⟩]
      · (repeat' first | exact trivial | exact rfl | refine And.intro ?_ ?_)
        show rtab (k + 1) (crow C S) = rtab k (crow C S) ++ [[D.n (IntKind.i64.wrap ((nx C S k).1 + 1)), D.n 0]]
        rw [rtab_app, w1]; unfold crow; rw [e1]
    · have g : decide (IntKind.i64.wrap ((nx C S k).2 + min (at' S (0 + k)) C) > C) = false := g
      rw [eA] at g
      have g := of_decide_eq_false g
      have e1 : cel C S k = nx C S k := by unfold cel cellOf; rw [if_neg g]
      have e2 : nx C S (k + 1) = ((nx C S k).1, (nx C S k).2 + min (at' S k) C) := by
        show ((cel C S k).1, (cel C S k).2 + min (at' S k) C) = _
        rw [e1]
      intro _; refine ⟨rfl, ?_⟩
      intro _; refine ⟨fun g3 => by simp at g3, fun _ => ?_⟩
      refine ⟨⟨(rtab_len k _).symm, show k + 1 ≤ 4611686018427387904 by omega, show (k + 1) * 16 ≤ 70368744177664 by omega⟩, ?_⟩
      refine ⟨⟨k + 1, by omega, sidx hmk ⟨by omega, by omega⟩⟩, by simp; omega, th [(1, some 3)] 2, rfl, rfl, rfl, rfl, rfl, rfl, ?_, ?_⟩
      · (repeat' first | exact trivial | exact rfl | refine And.intro ?_ ?_)
        · exact ek
        · show (nx C S (k + 1)).1 = (nx C S k).1
          rw [e2]
        · show (nx C S (k + 1)).2 = IntKind.i64.wrap ((nx C S k).2 + min (at' S (0 + k)) C)
          rw [e2, eA]
      · (repeat' first | exact trivial | exact rfl | refine And.intro ?_ ?_)
        show rtab (k + 1) (crow C S) = rtab k (crow C S) ++ [[D.n (nx C S k).1, D.n (nx C S k).2]]
        rw [rtab_app]; unfold crow; rw [e1]
  · have hkl := of_decide_eq_false (show decide ((k : Int) < (S.length : Int)) = false from g)
    have hkl : k = S.length := by omega
    subst hkl
    have e1 : cl C S = (rtab S.length (crow C S), 0) := by unfold cl; rw [if_neg (by omega), if_pos ⟨by omega, hC, hmk⟩]
    intro _
    refine ⟨[(1, some 1)], .tup [.grw 1 (cl C S).1.length, .int .i64 (cl C S).2], ⟨2, 1, [(1, .arr [.int .i64, .int .i64] .grow (.recs (cl C S).1))]⟩, rfl, rfl, rfl, rfl, ?_, ?_, ⟨rfl, rfl⟩⟩
    · rw [e1]
      (repeat' first | exact trivial | exact rfl | refine And.intro ?_ ?_)
      exact rtab_len _ _
    · rw [e1]
      (repeat' first | exact trivial | exact rfl | refine And.intro ?_ ?_)
def Us (C : Int) (S : List Int) : Prop := S.length ≤ 100 ∧ SpOk C S
instance decUs (C : Int) (S : List Int) : Decidable (Us C S) := inferInstanceAs (Decidable (_ ∧ _))
theorem spans_ok (C : Int) (S : List Int) (hl : S.length ≤ 9223372036854775807) : SemF Try.prog 52 [.int .i64 C, .slc 0 1 0 S.length] ⟨1, 1, [(0, .arr [.int .i64] .rd (.ints S))]⟩ (fun v _ => v = .test ((cl C S).2 == 0) ∧ nameless v = true) := by
  refine enter tt_ok Try.func52 (nt := 15) (cd := body Try.f52) rfl rfl rfl rfl ?_
  intro _
  refine call_new [(0, some 0)] (rcells_ok C S hl) rfl rfl rfl rfl ?_ ?_ ?_
  · (repeat' first | exact trivial | exact rfl | refine And.intro ?_ ?_)
  · (repeat' first | exact trivial | exact rfl | refine And.intro ?_ ?_)
  intro v h' hv
  obtain ⟨rfl, rfl⟩ := hv
  refine ⟨[(1, some 1)], 2, [(1, .arr [.int .i64, .int .i64] .grow (.recs (cl C S).1))], .tup [.grw 1 (cl C S).1.length, .int .i64 (cl C S).2], rfl, rfl, rfl, rfl, rfl, ?_, ?_, ?_⟩
  · (repeat' first | exact trivial | exact rfl | refine And.intro ?_ ?_)
  · (repeat' first | exact trivial | exact rfl | refine And.intro ?_ ?_)
  intro _
  exact ⟨rfl, rfl⟩
theorem cl_ok {C : Int} {S : List Int} (h : SpOk C S) : cl C S = (rtab S.length (crow C S), 0) := by have := h.1; unfold cl; rw [if_neg (by omega), if_pos h]
theorem cl_zero {C : Int} {S : List Int} (h : (cl C S).2 = 0) : SpOk C S := by
  unfold cl at h
  split at h
  · simp at h
  · split at h
    · assumption
    · simp at h
theorem usable_ok (C : Int) (S : List Int) (hl : S.length ≤ 9223372036854775807) : SemF Try.prog 39 [.int .i64 C, .slc 0 1 0 S.length] ⟨1, 1, [(0, .arr [.int .i64] .rd (.ints S))]⟩ (fun v _ => v = .test (decide (Us C S)) ∧ nameless v = true) := by
  refine SemF.test ?_
  refine enter tt_ok Try.func39 (nt := 13) (cd := body Try.f39) rfl rfl rfl rfl ?_
  intro _; refine ⟨fun g => ?_, fun g => ?_⟩
  rotate_left
  · have g := of_decide_eq_false (show decide ((S.length : Int) ≤ 100) = false from g)
    intro _
    exact ⟨false, .inl rfl, by rw [decide_eq_false (fun h : Us C S => by have := h.1; omega)], rfl⟩
  have g := of_decide_eq_true (show decide ((S.length : Int) ≤ 100) = true from g)
  intro _
  refine call_pure [(0, some 0)] (spans_ok C S hl) rfl rfl rfl ?_ ?_ ?_
  · (repeat' first | exact trivial | exact rfl | refine And.intro ?_ ?_)
  · (repeat' first | exact trivial | exact rfl | refine And.intro ?_ ?_)
  intro v hv _
  subst hv
  intro _
  refine ⟨_, .inr rfl, ?_, rfl⟩
  by_cases h : SpOk C S
  · rw [decide_eq_true (show Us C S from ⟨by omega, h⟩), cl_ok h]; rfl
  · rw [decide_eq_false (fun h2 : Us C S => h h2.2)]
    have : (cl C S).2 ≠ 0 := fun e => h (cl_zero e)
    congr 1
    simpa using this
theorem law10 (C : Int) (S : List Int) (hl : List.length S ≤ 9223372036854775807) : SemF Try.prog 10 [.int .i64 C, .slc 0 1 0 S.length] ⟨1, 1, [(0, .arr [.int .i64] .ro (.ints S))]⟩ (fun v _ => IsTrue v) := by
  refine enter tt_ok Try.func10 (nt := 94) (cd := body Try.f10) rfl rfl rfl rfl ?_
  intro _
  refine head_ok rfl Try.func28 (cd := body Try.f28) rfl ?_
  intro _
  refine call_pure [(0, some 0)] (usable_ok C S hl) rfl rfl rfl ?_ ?_ ?_
  · (repeat' first | exact trivial | exact rfl | refine And.intro ?_ ?_)
  · (repeat' first | exact trivial | exact rfl | refine And.intro ?_ ?_)
  intro v hv _
  subst hv
  intro _; refine ⟨fun g => ?_, fun g => ?_⟩
  · intro _
    show true = true
    rfl
  have g : (!decide (Us C S)) = false := g
  rw [Bool.not_eq_false'] at g
  obtain ⟨h100, hU⟩ := of_decide_eq_true g
  have e1 := cl_ok hU
  have eL : List.length (cl C S).1 = S.length := by rw [e1]; exact rtab_len _ _
  have row : ∀ k, k < S.length → (cl C S).1.getD k [] = crow C S k := fun k hk => by rw [e1]; exact rtab_get _ hk
  intro _
  refine call_new [(0, some 0)] (cells_ok C S hl) rfl rfl rfl rfl ?_ ?_ ?_
  · (repeat' first | exact trivial | exact rfl | refine And.intro ?_ ?_)
  · (repeat' first | exact trivial | exact rfl | refine And.intro ?_ ?_)
  intro v h' hv
  obtain ⟨rfl, rfl⟩ := hv
  refine ⟨[(1, some 1)], 2, [(1, .arr [.int .i64, .int .i64] .grow (.recs (cl C S).1))], .tup [.grw 1 (cl C S).1.length, .int .i64 (cl C S).2], rfl, rfl, rfl, rfl, rfl, ?_, ?_, ?_⟩
  · (repeat' first | exact trivial | exact rfl | refine And.intro ?_ ?_)
  · (repeat' first | exact trivial | exact rfl | refine And.intro ?_ ?_)
  intro _; refine ⟨fun g => ?_, fun _ => ?_⟩
  · exfalso
    have g : ((cl C S).2 != 0) = true := g
    rw [e1] at g; simp at g
  intro _; refine ⟨fun g => ?_, fun _ => ?_⟩
  · exfalso
    have g : (((cl C S).1.length : Int) != (S.length : Int)) = true := g
    rw [eL] at g; simp at g
  intro _
  refine loop2 tt_ok [36, 5] [] 2 (fun k : Fin (S.length + 1) => [(36, .int .i64 (k : Nat)), (5, .bool true)]) (fun _ => []) (fun k => S.length - k) ⟨0, by omega⟩ ?_
  intro _
  refine ⟨⟨th [] 2, rfl, rfl, rfl, rfl, rfl, rfl, ?_, ?_⟩, ?_⟩
  · (repeat' first | exact trivial | exact rfl | refine And.intro ?_ ?_)
  · (repeat' first | exact trivial | exact rfl | refine And.intro ?_ ?_)
  intro ⟨k, hk⟩
  have z : 0 + k = k := Nat.zero_add k
  intro _; refine ⟨fun g => ?_, fun g => ?_⟩
  rotate_left
  · intro _
    show true = true
    rfl
  have g : decide ((k : Int) < ((cl C S).1.length : Int)) = true := g
  rw [eL] at g
  have hkl := of_decide_eq_true g
  have hkn : k < S.length := by omega
  have hC := hU.2.1
  have hS := hU.2.2
  have cb := cel_bd hC (k := k) (fun i hi => hS i (by omega))
  have ek := (wrap_nat k (by omega)).symm
  have r0 : (((cl C S).1.getD k []).getD 0 (D.n 0)).int = (cel C S k).1 := by rw [row k hkn]; rfl
  have r1 : (((cl C S).1.getD k []).getD 1 (D.n 0)).int = (cel C S k).2 := by rw [row k hkn]; rfl
  intro _; refine ⟨show 0 ≤ (k : Int) ∧ (k : Int) < ((cl C S).1.length : Int) by rw [eL]; omega, ?_⟩
  intro _; refine ⟨show (k : Int).toNat < List.length (cl C S).1 by rw [eL]; omega, ?_⟩
  intro _; refine ⟨show 0 ≤ (k : Int) ∧ (k : Int) < (S.length : Int) by omega, ?_⟩
  intro _; refine ⟨show 0 + (k : Int).toNat < S.length by omega, ?_⟩
  have fin : true = decide (IntKind.i64.wrap ((((cl C S).1.getD k []).getD 1 (D.n 0)).int + min (at' S (0 + k)) C) ≤ C) := by
    have hsk := hS k hkn
    rw [r1, z, wrapS _ ⟨by omega, by omega⟩]
    exact (decide_eq_true cb.2.2.2).symm
  intro _; refine ⟨fun g => ?_, fun g => ?_⟩
  · have g := of_decide_eq_true (show decide ((k : Int) > 0) = true from g)
    have eW1 : IntKind.i64.wrap ((k : Int) - 1) = ((k - 1 : Nat) : Int) := by rw [wrapS _ ⟨by omega, by omega⟩]; omega
    have eT1 : (IntKind.i64.wrap ((k : Int) - 1)).toNat = k - 1 := by rw [eW1]; omega
    have p0 : (((cl C S).1.getD (k - 1) []).getD 0 (D.n 0)).int = (cel C S (k - 1)).1 := by rw [row (k - 1) (by omega)]; rfl
    have p1 : (((cl C S).1.getD (k - 1) []).getD 1 (D.n 0)).int = (cel C S (k - 1)).2 := by rw [row (k - 1) (by omega)]; rfl
    have enx : nx C S k = ((cel C S (k - 1)).1, (cel C S (k - 1)).2 + min (at' S (k - 1)) C) := by
      have : k = (k - 1) + 1 := by omega
      rw [this]; rfl
    have pb := cel_bd hC (k := k - 1) (fun i hi => hS i (by omega))
    have hsk := hS k hkn
    have hsp := hS (k - 1) (by omega)
    intro _; refine ⟨show 0 ≤ IntKind.i64.wrap ((k : Int) - 1) ∧ IntKind.i64.wrap ((k : Int) - 1) < ((cl C S).1.length : Int) by rw [eW1, eL]; omega, ?_⟩
    intro _; refine ⟨show (IntKind.i64.wrap ((k : Int) - 1)).toNat < List.length (cl C S).1 by rw [eT1, eL]; omega, ?_⟩
    intro _; refine ⟨show 0 ≤ IntKind.i64.wrap ((k : Int) - 1) ∧ IntKind.i64.wrap ((k : Int) - 1) < (S.length : Int) by rw [eW1]; omega, ?_⟩
    intro _; refine ⟨show 0 + (IntKind.i64.wrap ((k : Int) - 1)).toNat < S.length by rw [eT1]; omega, ?_⟩
    intro _; refine ⟨by kernel_rfl, ?_⟩
    have eQ : IntKind.i64.wrap ((((cl C S).1.getD (IntKind.i64.wrap ((k : Int) - 1)).toNat []).getD 1 (D.n 0)).int + min (at' S (0 + (IntKind.i64.wrap ((k : Int) - 1)).toNat)) C) = (nx C S k).2 := by
      rw [eT1, p1, Nat.zero_add, enx]; exact wrapS _ ⟨by omega, by omega⟩
    have eR : IntKind.i64.wrap (IntKind.i64.wrap ((((cl C S).1.getD (IntKind.i64.wrap ((k : Int) - 1)).toNat []).getD 1 (D.n 0)).int + min (at' S (0 + (IntKind.i64.wrap ((k : Int) - 1)).toNat)) C) + min (at' S (0 + k)) C) = (nx C S k).2 + min (at' S k) C := by
      have nb := nx_bd hC k (fun i hi => hS i (by omega))
      rw [eQ, z]; exact wrapS _ ⟨by omega, by omega⟩
    intro _; refine ⟨fun g => ?_, fun g => ?_⟩
    · have g : decide (IntKind.i64.wrap (IntKind.i64.wrap ((((cl C S).1.getD (IntKind.i64.wrap ((k : Int) - 1)).toNat []).getD 1 (D.n 0)).int + min (at' S (0 + (IntKind.i64.wrap ((k : Int) - 1)).toNat)) C) + min (at' S (0 + k)) C) > C) = true := g
      rw [eR] at g
      have g := of_decide_eq_true g
      have ec : cel C S k = ((nx C S k).1 + 1, 0) := by unfold cel cellOf; rw [if_pos g]
      intro _; refine ⟨fun _ => ?_, fun g => ?_⟩
      rotate_left
      · exfalso
        have g : (((((cl C S).1.getD k []).getD 0 (D.n 0)).int == IntKind.i64.wrap ((((cl C S).1.getD (IntKind.i64.wrap ((k : Int) - 1)).toNat []).getD 0 (D.n 0)).int + 1)) && ((((cl C S).1.getD k []).getD 1 (D.n 0)).int == 0)) = false := g
        rw [r0, r1, eT1, p0, ec, enx, wrapS _ ⟨by omega, by omega⟩] at g
        simp at g
      refine ⟨⟨k + 1, by omega⟩, by simp; omega, th [] 2, rfl, rfl, rfl, rfl, rfl, rfl, ?_, ?_⟩
      · (repeat' first | exact trivial | exact rfl | refine And.intro ?_ ?_)
        · exact ek
        · exact fin
      · (repeat' first | exact trivial | exact rfl | refine And.intro ?_ ?_)
    · have g : decide (IntKind.i64.wrap (IntKind.i64.wrap ((((cl C S).1.getD (IntKind.i64.wrap ((k : Int) - 1)).toNat []).getD 1 (D.n 0)).int + min (at' S (0 + (IntKind.i64.wrap ((k : Int) - 1)).toNat)) C) + min (at' S (0 + k)) C) > C) = false := g
      rw [eR] at g
      have g := of_decide_eq_false g
      have ec : cel C S k = nx C S k := by unfold cel cellOf; rw [if_neg g]
      intro _; refine ⟨fun _ => ?_, fun g => ?_⟩
      rotate_left
      · exfalso
        have g : (((((cl C S).1.getD k []).getD 0 (D.n 0)).int == (((cl C S).1.getD (IntKind.i64.wrap ((k : Int) - 1)).toNat []).getD 0 (D.n 0)).int) && ((((cl C S).1.getD k []).getD 1 (D.n 0)).int == IntKind.i64.wrap ((((cl C S).1.getD (IntKind.i64.wrap ((k : Int) - 1)).toNat []).getD 1 (D.n 0)).int + min (at' S (0 + (IntKind.i64.wrap ((k : Int) - 1)).toNat)) C))) = false := g
        rw [eQ, r0, r1, eT1, p0, ec, enx] at g
        simp at g
      refine ⟨⟨k + 1, by omega⟩, by simp; omega, th [] 2, rfl, rfl, rfl, rfl, rfl, rfl, ?_, ?_⟩
      · (repeat' first | exact trivial | exact rfl | refine And.intro ?_ ?_)
        · exact ek
        · exact fin
      · (repeat' first | exact trivial | exact rfl | refine And.intro ?_ ?_)
  · have g := of_decide_eq_false (show decide ((k : Int) > 0) = false from g)
    have hk0 : k = 0 := by omega
    subst hk0
    have hsk := hS 0 hkn
    have ec : cel C S 0 = (0, 0) := by unfold cel cellOf nx; rw [if_neg (by simp only []; omega)]
    intro _; refine ⟨fun _ => ?_, fun g => ?_⟩
    rotate_left
    · exfalso
      have g : (((((cl C S).1.getD 0 []).getD 0 (D.n 0)).int == 0) && ((((cl C S).1.getD 0 []).getD 1 (D.n 0)).int == 0)) = false := g
      rw [r0, r1, ec] at g
      simp at g
    refine ⟨⟨0 + 1, by omega⟩, by simp; omega, th [] 2, rfl, rfl, rfl, rfl, rfl, rfl, ?_, ?_⟩
    · (repeat' first | exact trivial | exact rfl | refine And.intro ?_ ?_)
      · exact fin
    · (repeat' first | exact trivial | exact rfl | refine And.intro ?_ ?_)
abbrev K3 : List CK := [.int .i64, .int .i64, .int .i64]
abbrev K1 : List CK := [.int .i64]
theorem len_test (n : Int) (h : H) (K : V → H → Prop) (hK : K (.test (decide (0 ≤ n ∧ n ≤ 1000000))) h) : SemF Try.prog 67 [.int .i64 n] h K := by
  refine SemF.test ?_
  refine enter tt_ok Try.func67 (nt := 9) (cd := body Try.f67) rfl rfl rfl rfl ?_
  intro _; refine ⟨fun g => ?_, fun g => ?_⟩
  · have g := of_decide_eq_true (show decide (n ≥ 0) = true from g)
    intro _
    refine ⟨_, .inr rfl, ?_⟩
    have : decide (0 ≤ n ∧ n ≤ 1000000) = decide (n ≤ 1000000) := by
      by_cases e : n ≤ 1000000
      · rw [decide_eq_true e, decide_eq_true (show 0 ≤ n ∧ n ≤ 1000000 from ⟨by omega, e⟩)]
      · rw [decide_eq_false e, decide_eq_false (fun m => e m.2)]
    rw [← this]; exact hK
  · have g := of_decide_eq_false (show decide (n ≥ 0) = false from g)
    intro _
    refine ⟨false, .inl rfl, ?_⟩
    have : decide (0 ≤ n ∧ n ≤ 1000000) = false := decide_eq_false (fun m => by have := m.1; omega)
    rw [← this]; exact hK
theorem gap_test (n : Int) (h : H) (K : V → H → Prop) (hK : K (.test (decide (0 ≤ n ∧ n ≤ 100000))) h) : SemF Try.prog 68 [.int .i64 n] h K := by
  refine SemF.test ?_
  refine enter tt_ok Try.func68 (nt := 9) (cd := body Try.f68) rfl rfl rfl rfl ?_
  intro _; refine ⟨fun g => ?_, fun g => ?_⟩
  · have g := of_decide_eq_true (show decide (n ≥ 0) = true from g)
    intro _
    refine ⟨_, .inr rfl, ?_⟩
    have : decide (0 ≤ n ∧ n ≤ 100000) = decide (n ≤ 100000) := by
      by_cases e : n ≤ 100000
      · rw [decide_eq_true e, decide_eq_true (show 0 ≤ n ∧ n ≤ 100000 from ⟨by omega, e⟩)]
      · rw [decide_eq_false e, decide_eq_false (fun m => e m.2)]
    rw [← this]; exact hK
  · have g := of_decide_eq_false (show decide (n ≥ 0) = false from g)
    intro _
    refine ⟨false, .inl rfl, ?_⟩
    have : decide (0 ≤ n ∧ n ≤ 100000) = false := decide_eq_false (fun m => by have := m.1; omega)
    rw [← this]; exact hK
def ba (l : Rows) (i : Nat) : Int := ((l.getD i []).getD 0 (D.n 0)).int
def gr (l : Rows) (i : Nat) : Int := ((l.getD i []).getD 1 (D.n 0)).int
def mx (l : Rows) (i : Nat) : Int := ((l.getD i []).getD 2 (D.n 0)).int
def Tk (l : Rows) (i : Nat) : Prop := (0 ≤ ba l i ∧ ba l i ≤ 1000000) ∧ (0 ≤ gr l i ∧ gr l i ≤ 1000) ∧ (mx l i ≠ 0 → ba l i ≤ mx l i ∧ mx l i ≤ 1000000)
def Vd (l : Rows) : Prop := (1 ≤ l.length ∧ l.length ≤ 64) ∧ ∀ i, i < l.length → Tk l i
instance decTk (l : Rows) (i : Nat) : Decidable (Tk l i) := inferInstanceAs (Decidable (_ ∧ _))
instance decVd (l : Rows) : Decidable (Vd l) := inferInstanceAs (Decidable (_ ∧ _))
abbrev VIdx (l : Rows) := { k : Nat // k ≤ l.length ∧ ∀ i, i < k → Tk l i }
theorem vidx_succ {l : Rows} {k : Nat} (hm : ∀ i, i < k → Tk l i) (h : Tk l k) : ∀ i, i < k + 1 → Tk l i := fun i hi => by
  by_cases e : i = k
  · subst e; exact h
  · exact hm i (by omega)
theorem vend {l : Rows} (hm : ∀ i, i < l.length → Tk l i) : decide (Vd l) = decide (1 ≤ l.length ∧ l.length ≤ 64) := by
  by_cases e : 1 ≤ l.length ∧ l.length ≤ 64
  · rw [decide_eq_true e, decide_eq_true (show Vd l from ⟨e, hm⟩)]
  · rw [decide_eq_false e, decide_eq_false (fun h : Vd l => e h.1)]
abbrev Hl (l : Rows) : H := ⟨1, 1, [(0, .arr [.int .i64, .int .i64, .int .i64] .rd (.recs l))]⟩
theorem valid_ok (l : Rows) (hl : l.length ≤ 9223372036854775807) : SemF Try.prog 66 [.slc 0 3 0 l.length] ⟨1, 1, [(0, .arr [.int .i64, .int .i64, .int .i64] .rd (.recs l))]⟩ (fun v _ => v = .test (decide (Vd l)) ∧ nameless v = true) := by
  refine SemF.test ?_
  refine enter tt_ok Try.func66 (nt := 51) (cd := body Try.f66) rfl rfl rfl rfl ?_
  intro _
  refine loop2 tt_ok [7] [] 1 (fun k : VIdx l => [(7, .int .i64 (k : Nat))]) (fun _ => []) (fun k => l.length - k) ⟨0, by omega, fun i h => by omega⟩ ?_
  intro _
  refine ⟨⟨th [] 1, rfl, rfl, rfl, rfl, rfl, rfl, ?_, ?_⟩, ?_⟩
  · (repeat' first | exact trivial | exact rfl | refine And.intro ?_ ?_)
  · (repeat' first | exact trivial | exact rfl | refine And.intro ?_ ?_)
  intro ⟨k, hk, hmk⟩
  have hF : ¬ Tk l k → k < l.length → (∃ b, (V.bool true = .bool b ∨ V.bool true = .test b) → False) → True := fun _ _ _ => trivial
  have z : 0 + k = k := Nat.zero_add k
  intro _; refine ⟨fun g => ?_, fun g => ?_⟩
  · have hkl := of_decide_eq_true (show decide ((k : Int) < (l.length : Int)) = true from g)
    have bad : ¬ Tk l k → decide (Vd l) = false := fun h => decide_eq_false (fun hv => h (hv.2 k (by omega)))
    intro _; refine ⟨show 0 ≤ (k : Int) ∧ (k : Int) < (l.length : Int) by omega, ?_⟩
    intro _; refine ⟨show 0 + (k : Int).toNat < l.length by omega, ?_⟩
    intro _
    refine len_test _ _ _ ?_
    intro _; refine ⟨fun g => ?_, fun g => ?_⟩
    · have g : (!decide (0 ≤ ba l (0 + k) ∧ ba l (0 + k) ≤ 1000000)) = true := g
      rw [z, Bool.not_eq_true'] at g
      have g := of_decide_eq_false g
      intro _
      exact ⟨false, .inl rfl, by rw [bad (fun h => g h.1)], rfl⟩
    have g : (!decide (0 ≤ ba l (0 + k) ∧ ba l (0 + k) ≤ 1000000)) = false := g
    rw [z, Bool.not_eq_false'] at g
    have g1 := of_decide_eq_true g
    intro _; refine ⟨fun g => ?_, fun g => ?_⟩
    · have g : decide (gr l (0 + k) < 0) = true := g
      rw [z] at g
      have g := of_decide_eq_true g
      intro _
      exact ⟨false, .inl rfl, by rw [bad (fun h => by have := h.2.1.1; omega)], rfl⟩
    have g : decide (gr l (0 + k) < 0) = false := g
    rw [z] at g
    have g2 := of_decide_eq_false g
    intro _; refine ⟨fun g => ?_, fun g => ?_⟩
    · have g : decide (gr l (0 + k) > 1000) = true := g
      rw [z] at g
      have g := of_decide_eq_true g
      intro _
      exact ⟨false, .inl rfl, by rw [bad (fun h => by have := h.2.1.2; omega)], rfl⟩
    have g : decide (gr l (0 + k) > 1000) = false := g
    rw [z] at g
    have g3 := of_decide_eq_false g
    intro _; refine ⟨fun g => ?_, fun g => ?_⟩
    · have g : (mx l (0 + k) != 0) = true := g
      rw [z] at g
      have g4 : mx l k ≠ 0 := by simpa using g
      intro _; refine ⟨fun g => ?_, fun g => ?_⟩
      · have g : decide (mx l (0 + k) < ba l (0 + k)) = true := g
        rw [z] at g
        have g := of_decide_eq_true g
        intro _
        exact ⟨false, .inl rfl, by rw [bad (fun h => by have := h.2.2 g4; omega)], rfl⟩
      have g : decide (mx l (0 + k) < ba l (0 + k)) = false := g
      rw [z] at g
      have g5 := of_decide_eq_false g
      intro _; refine ⟨fun g => ?_, fun g => ?_⟩
      · have g : decide (mx l (0 + k) > 1000000) = true := g
        rw [z] at g
        have g := of_decide_eq_true g
        intro _
        exact ⟨false, .inl rfl, by rw [bad (fun h => by have := h.2.2 g4; omega)], rfl⟩
      have g : decide (mx l (0 + k) > 1000000) = false := g
      rw [z] at g
      have g6 := of_decide_eq_false g
      refine ⟨⟨k + 1, by omega, vidx_succ hmk ⟨g1, ⟨by omega, by omega⟩, fun _ => ⟨by omega, by omega⟩⟩⟩, by simp; omega, th [] 1, rfl, rfl, rfl, rfl, rfl, rfl, ?_, ?_⟩
      · (repeat' first | exact trivial | exact rfl | refine And.intro ?_ ?_)
        exact (wrap_nat k (by omega)).symm
      · (repeat' first | exact trivial | exact rfl | refine And.intro ?_ ?_)
    have g : (mx l (0 + k) != 0) = false := g
    rw [z] at g
    have g4 : mx l k = 0 := by simpa using g
    refine ⟨⟨k + 1, by omega, vidx_succ hmk ⟨g1, ⟨by omega, by omega⟩, fun h => absurd g4 h⟩⟩, by simp; omega, th [] 1, rfl, rfl, rfl, rfl, rfl, rfl, ?_, ?_⟩
    · (repeat' first | exact trivial | exact rfl | refine And.intro ?_ ?_)
      exact (wrap_nat k (by omega)).symm
    · (repeat' first | exact trivial | exact rfl | refine And.intro ?_ ?_)
  · have hkl := of_decide_eq_false (show decide ((k : Int) < (l.length : Int)) = false from g)
    have hkl : k = l.length := by omega
    subst hkl
    intro _; refine ⟨fun g => ?_, fun g => ?_⟩
    · have g := of_decide_eq_true (show decide ((l.length : Int) ≥ 1) = true from g)
      intro _
      refine ⟨_, .inr rfl, ?_, rfl⟩
      rw [vend hmk]
      by_cases e : l.length ≤ 64
      · rw [decide_eq_true (show (l.length : Int) ≤ 64 by omega), decide_eq_true (show 1 ≤ l.length ∧ l.length ≤ 64 by omega)]
      · rw [decide_eq_false (show ¬ (l.length : Int) ≤ 64 by omega), decide_eq_false (show ¬ (1 ≤ l.length ∧ l.length ≤ 64) by omega)]
    · have g := of_decide_eq_false (show decide ((l.length : Int) ≥ 1) = false from g)
      intro _
      exact ⟨false, .inl rfl, by rw [vend hmk, decide_eq_false (show ¬ (1 ≤ l.length ∧ l.length ≤ 64) by omega)], rfl⟩
/-! lists by their places -/
def tab (n : Nat) (f : Nat → Int) : List Int := (List.range n).map f
theorem tab_len (n : Nat) (f : Nat → Int) : List.length (tab n f) = n := by simp [tab]
theorem tab_get {n : Nat} (f : Nat → Int) {i : Nat} (h : i < n) : (tab n f).getD i 0 = f i := by
  unfold tab; rw [List.getD_eq_getElem?_getD, List.getElem?_map, List.getElem?_range h]; rfl
theorem tab_ext {n : Nat} {f g : Nat → Int} (h : ∀ i, i < n → f i = g i) : tab n f = tab n g := by
  unfold tab; exact List.map_congr_left (fun i hi => h i (List.mem_range.1 hi))
theorem tab_set {n : Nat} (f : Nat → Int) (k : Nat) (v : Int) : (tab n f).set k v = tab n (fun i => if i = k then v else f i) := by
  unfold tab
  refine List.ext_getElem (by simp) (fun i h1 h2 => ?_)
  rw [List.getElem_set]
  simp only [List.getElem_map, List.getElem_range]
  by_cases e : k = i
  · rw [if_pos e, if_pos e.symm]
  · rw [if_neg e, if_neg (fun h => e h.symm)]
theorem tab_zero (n : Nat) : List.replicate n 0 = tab n (fun _ => 0) := by
  unfold tab
  refine List.ext_getElem (by simp) (fun i h1 h2 => ?_)
  simp
theorem tab_app (k : Nat) (f : Nat → Int) : tab (k + 1) f = tab k f ++ [f k] := by
  unfold tab; rw [List.range_succ, List.map_append]; rfl
theorem tab_of (l : List Int) : l = tab l.length (fun i => l.getD i 0) := by
  unfold tab
  refine List.ext_getElem (by simp) (fun i h1 h2 => ?_)
  simp [List.getD_eq_getElem?_getD, h1]
/-! where tracks begin -/
def Wd (w : List Int) (i : Nat) : Prop := 0 ≤ w.getD i 0 ∧ w.getD i 0 ≤ 1000000
instance decWd (w : List Int) (i : Nat) : Decidable (Wd w i) := inferInstanceAs (Decidable (_ ∧ _))
def sp (w : List Int) (g : Int) : Nat → Int
  | 0 => 0
  | k + 1 => sp w g k + (w.getD k 0 + g)
def SOk (w : List Int) (g : Int) : Prop := (1 ≤ w.length ∧ w.length ≤ 64) ∧ (0 ≤ g ∧ g ≤ 100000) ∧ ∀ i, i < w.length → Wd w i
instance decSOk (w : List Int) (g : Int) : Decidable (SOk w g) := inferInstanceAs (Decidable (_ ∧ _))
def sr (w : List Int) (g : Int) : List Int × Int := if SOk w g then (tab w.length (sp w g), 0) else ([], 1)
theorem sp_bd {w : List Int} {g : Int} (hg : 0 ≤ g ∧ g ≤ 100000) : ∀ k, k ≤ 64 → (∀ i, i < k → Wd w i) → 0 ≤ sp w g k ∧ sp w g k ≤ k * 1100000
  | 0, _, _ => ⟨Int.le_refl _, by simp [sp]⟩
  | k + 1, hk, h => by
    obtain ⟨a, b⟩ := sp_bd hg k (by omega) (fun i hi => h i (by omega))
    obtain ⟨c, d⟩ := h k (by omega)
    simp only [sp]
    omega
def SQ (w : List Int) (g : Int) : V → H → Prop := fun v h' => v = .tup [.grw 1 (sr w g).1.length, .int .i64 (sr w g).2] ∧ h' = ⟨2, 1, [(1, .arr [.int .i64] .own (.ints (sr w g).1))]⟩
abbrev WIdx (w : List Int) := { k : Nat // k ≤ w.length ∧ ∀ i, i < k → Wd w i }
theorem widx_succ {w : List Int} {k : Nat} (hm : ∀ i, i < k → Wd w i) (h : Wd w k) : ∀ i, i < k + 1 → Wd w i := fun i hi => by
  by_cases e : i = k
  · subst e; exact h
  · exact hm i (by omega)
theorem starts_ok (w : List Int) (gap : Int) (hl : w.length ≤ 9223372036854775807) : SemF Try.prog 59 [.slc 0 1 0 w.length, .int .i64 gap] ⟨1, 1, [(0, .arr [.int .i64] .rd (.ints w))]⟩ (SQ w gap) := by
  refine SemF.ret ?_
  refine enter tt_ok Try.func59 (nt := 47) (cd := body Try.f59) rfl rfl rfl rfl ?_
  have bad : ¬ SOk w gap → ∀ nx hx, Nat.ble 1 nx = true → Ret 1 (SQ w gap) (.tup [.nils, .int .i64 1]) ⟨nx, 1, hx⟩ := fun he nx hx hn => by
    have e1 : sr w gap = ([], 1) := by unfold sr; rw [if_neg he]
    refine ⟨[(1, none)], .tup [.grw 1 0, .int .i64 1], ⟨2, 1, [(1, .arr [.int .i64] .own (.ints []))]⟩, rfl, rfl, rfl, rfl, ?_, ?_, ?_, ?_⟩
    · (repeat' first | exact trivial | exact rfl | refine And.intro ?_ ?_)
    · (repeat' first | exact trivial | exact rfl | refine And.intro ?_ ?_)
    · rw [e1]; rfl
    · rw [e1]
  intro _; refine ⟨fun g => ?_, fun g => ?_⟩
  · have g := of_decide_eq_true (show decide ((w.length : Int) < 1) = true from g)
    intro _
    exact bad (fun h => by have := h.1; omega) _ _ rfl
  have g1 := of_decide_eq_false (show decide ((w.length : Int) < 1) = false from g)
  intro _; refine ⟨fun g => ?_, fun g => ?_⟩
  · have g := of_decide_eq_true (show decide ((w.length : Int) > 64) = true from g)
    intro _
    exact bad (fun h => by have := h.1; omega) _ _ rfl
  have g2 := of_decide_eq_false (show decide ((w.length : Int) > 64) = false from g)
  intro _
  refine gap_test _ _ _ ?_
  intro _; refine ⟨fun g => ?_, fun g => ?_⟩
  · have g : (!decide (0 ≤ gap ∧ gap ≤ 100000)) = true := g
    rw [Bool.not_eq_true'] at g
    have g := of_decide_eq_false g
    intro _
    exact bad (fun h => g h.2.1) _ _ rfl
  have g : (!decide (0 ≤ gap ∧ gap ≤ 100000)) = false := g
  rw [Bool.not_eq_false'] at g
  have g3 := of_decide_eq_true g
  intro _; refine ⟨⟨by omega, by omega, by omega⟩, ?_⟩
  intro _; refine ⟨rfl, ?_⟩
  intro _
  refine loop2 tt_ok [28, 7] [1] 2 (fun k : WIdx w => [(28, .int .i64 (k : Nat)), (7, .int .i64 (sp w gap k))]) (fun k => [(1, .arr [.int .i64] .own (.ints (tab w.length (fun i => if i < (k : Nat) then sp w gap i else 0))))]) (fun k => w.length - k) ⟨0, by omega, fun i h => by omega⟩ ?_
  intro _
  refine ⟨⟨th [] 2, rfl, rfl, rfl, rfl, rfl, rfl, ?_, ?_⟩, ?_⟩
  · (repeat' first | exact trivial | exact rfl | refine And.intro ?_ ?_)
  · (repeat' first | exact trivial | exact rfl | refine And.intro ?_ ?_)
    have : (w.length : Int).toNat = w.length := by omega
    show tab w.length _ = List.replicate (w.length : Int).toNat 0
    rw [this, tab_zero]
    exact tab_ext (fun i _ => if_neg (by simp))
  intro ⟨k, hk, hmk⟩
  have z : 0 + k = k := Nat.zero_add k
  intro _; refine ⟨fun g => ?_, fun g => ?_⟩
  · have hkl := of_decide_eq_true (show decide ((k : Int) < (w.length : Int)) = true from g)
    have i1 : 0 ≤ (k : Int) ∧ (k : Int) < (w.length : Int) := by omega
    intro _; refine ⟨i1, ?_⟩
    intro _; refine ⟨show 0 + (k : Int).toNat < w.length by omega, ?_⟩
    intro _
    refine len_test _ _ _ ?_
    intro _; refine ⟨fun g => ?_, fun g => ?_⟩
    · have g : (!decide (0 ≤ w.getD (0 + k) 0 ∧ w.getD (0 + k) 0 ≤ 1000000)) = true := g
      rw [z, Bool.not_eq_true'] at g
      have g := of_decide_eq_false g
      intro _
      exact bad (fun h => g (h.2.2 k (by omega))) _ _ rfl
    have g : (!decide (0 ≤ w.getD (0 + k) 0 ∧ w.getD (0 + k) 0 ≤ 1000000)) = false := g
    rw [z, Bool.not_eq_false'] at g
    have g4 := of_decide_eq_true g
    intro _; refine ⟨show 0 ≤ (k : Int) ∧ (k : Int) < ((w.length : Int).toNat : Int) by omega, ?_⟩
    intro _; refine ⟨show (k : Int).toNat < List.length (tab w.length _) by rw [tab_len]; omega, ?_⟩
    obtain ⟨b1, b2⟩ := sp_bd g3 k (by omega) hmk
    refine ⟨⟨k + 1, by omega, widx_succ hmk g4⟩, by simp; omega, th [] 2, rfl, rfl, rfl, rfl, rfl, rfl, ?_, ?_⟩
    · (repeat' first | exact trivial | exact rfl | refine And.intro ?_ ?_)
      · exact (wrap_nat k (by omega)).symm
      · show sp w gap k + (w.getD k 0 + gap) = IntKind.i64.wrap (sp w gap k + IntKind.i64.wrap (w.getD (0 + k) 0 + gap))
        rw [z, wrapS (w.getD k 0 + gap) ⟨by omega, by omega⟩, wrapS _ ⟨by omega, by omega⟩]
    · (repeat' first | exact trivial | exact rfl | refine And.intro ?_ ?_)
      show tab w.length _ = (tab w.length _).set k (sp w gap k)
      rw [tab_set]
      refine tab_ext (fun i _ => ?_)
      by_cases e : i = k
      · subst e; simp
      · by_cases e2 : i < k
        · rw [if_pos (show i < k + 1 by omega), if_neg e, if_pos e2]
        · rw [if_neg (show ¬ i < k + 1 by omega), if_neg e, if_neg e2]
  · have hkl := of_decide_eq_false (show decide ((k : Int) < (w.length : Int)) = false from g)
    have hkl : k = w.length := by omega
    subst hkl
    have e1 : sr w gap = (tab w.length (sp w gap), 0) := by unfold sr; rw [if_pos ⟨by omega, g3, hmk⟩]
    intro _
    refine ⟨[(1, some 1)], .tup [.grw 1 (sr w gap).1.length, .int .i64 (sr w gap).2], ⟨2, 1, [(1, .arr [.int .i64] .own (.ints (sr w gap).1))]⟩, rfl, rfl, rfl, rfl, ?_, ?_, ⟨rfl, rfl⟩⟩
    · rw [e1]
      (repeat' first | exact trivial | exact rfl | refine And.intro ?_ ?_)
      show List.length (tab w.length _) = (w.length : Int).toNat
      rw [tab_len]; omega
    · rw [e1]
      (repeat' first | exact trivial | exact rfl | refine And.intro ?_ ?_)
      exact tab_ext (fun i hi => (if_pos hi).symm)
/-! what is shared out -/
structure St where
  o : Nat → Bool
  p : Nat → Int
  f : Int
def pre (l : Rows) (o : Nat → Bool) : Nat → Int
  | 0 => 0
  | k + 1 => pre l o k + (if o k = true then gr l k else 0)
def al (l : Rows) (o : Nat → Bool) : Int := pre l o l.length
def pt (l : Rows) (o : Nat → Bool) (f : Int) (i : Nat) : Int := (f * pre l o (i + 1)).tdiv (al l o) - (f * pre l o i).tdiv (al l o)
def ct (l : Rows) (o : Nat → Bool) (f : Int) (i : Nat) : Bool := o i && (decide (mx l i ≠ 0) && decide (ba l i + pt l o f i > mx l i))
def cs (l : Rows) (o : Nat → Bool) (f : Int) : Nat → Int
  | 0 => 0
  | k + 1 => cs l o f k + (if ct l o f k = true then mx l k - ba l k else 0)
def op (o : Nat → Bool) (n : Nat) : List Nat := (List.range n).filter o
def step (l : Rows) (s : St) : St := ⟨fun i => s.o i && !ct l s.o s.f i, fun i => if ct l s.o s.f i = true then mx l i - ba l i else s.p i, s.f - cs l s.o s.f l.length⟩
def lastP (l : Rows) (s : St) : Nat → Int := fun i => if s.o i = true then pt l s.o s.f i else s.p i
def fin (l : Rows) : Nat → St → Nat → Int
  | 0, s => s.p
  | k + 1, s => if op s.o l.length = [] then s.p else if op (ct l s.o s.f) l.length = [] then lastP l s else fin l k (step l s)
structure Inv (l : Rows) (s : St) : Prop where
  v : Vd l
  f0 : 0 ≤ s.f
  f1 : s.f ≤ 1000000
  og : ∀ i, i < l.length → s.o i = true → 0 < gr l i
  p0 : ∀ i, i < l.length → 0 ≤ s.p i ∧ s.p i ≤ 1000000
theorem mem_op {o : Nat → Bool} {n i : Nat} : i ∈ op o n ↔ i < n ∧ o i = true := by simp [op]
theorem pre_bd {l : Rows} (hv : Vd l) (o : Nat → Bool) : ∀ k, k ≤ l.length → 0 ≤ pre l o k ∧ pre l o k ≤ k * 1000
  | 0, _ => ⟨Int.le_refl _, by simp [pre]⟩
  | k + 1, hk => by
    obtain ⟨a, b⟩ := pre_bd hv o k (by omega)
    have := (hv.2 k (by omega)).2.1
    simp only [pre]
    split <;> omega
theorem pre_mono {l : Rows} (hv : Vd l) (o : Nat → Bool) {i : Nat} : ∀ {k : Nat}, k ≤ l.length → i ≤ k → pre l o i ≤ pre l o k
  | 0, _, h => by have : i = 0 := by omega
                  subst this; exact Int.le_refl _
  | k + 1, hk, h => by
    rcases Nat.lt_or_ge k i with e | e
    · have : i = k + 1 := by omega
      subst this; exact Int.le_refl _
    · have h1 := pre_mono hv o (k := k) (by omega) e
      have := (hv.2 k (by omega)).2.1
      simp only [pre]
      split <;> omega
theorem al_pos {l : Rows} {s : St} (h : Inv l s) (hne : op s.o l.length ≠ []) : 0 < al l s.o := by
  obtain ⟨i, hi⟩ := List.exists_mem_of_ne_nil _ hne
  rw [mem_op] at hi
  have h1 := pre_mono h.v s.o (k := l.length) (i := i + 1) (Nat.le_refl _) (by omega)
  have h2 := pre_bd h.v s.o i (by omega)
  have h3 := h.og i hi.1 hi.2
  unfold al
  have : pre l s.o (i + 1) = pre l s.o i + gr l i := by simp only [pre]; rw [if_pos hi.2]
  omega
theorem td_mono {a b c : Int} (h0 : 0 ≤ a) (h : a ≤ b) (hc : 0 < c) : a.tdiv c ≤ b.tdiv c := by
  rw [Int.tdiv_eq_ediv_of_nonneg h0, Int.tdiv_eq_ediv_of_nonneg (by omega)]
  exact Int.ediv_le_ediv hc h
theorem td_nn {a c : Int} (h0 : 0 ≤ a) (hc : 0 < c) : 0 ≤ a.tdiv c := by
  rw [Int.tdiv_eq_ediv_of_nonneg h0]; exact Int.ediv_nonneg h0 (by omega)
theorem fpre_nn {l : Rows} {s : St} (h : Inv l s) {k : Nat} (hk : k ≤ l.length) : 0 ≤ s.f * pre l s.o k ∧ s.f * pre l s.o k ≤ 64000000000 := by
  obtain ⟨a, b⟩ := pre_bd h.v s.o k hk
  have h64 := h.v.1.2
  refine ⟨Int.mul_nonneg h.f0 a, ?_⟩
  have h1 : s.f * pre l s.o k ≤ 1000000 * pre l s.o k := Int.mul_le_mul_of_nonneg_right h.f1 a
  omega
theorem tot {l : Rows} {s : St} (h : Inv l s) (hp : 0 < al l s.o) : (s.f * pre l s.o l.length).tdiv (al l s.o) = s.f := by
  rw [Int.tdiv_eq_ediv_of_nonneg (fpre_nn h (Nat.le_refl _)).1]
  have hp2 : 0 < pre l s.o l.length := hp
  exact Int.mul_ediv_cancel _ (by omega)
theorem pt_bd {l : Rows} {s : St} (h : Inv l s) (hp : 0 < al l s.o) {i : Nat} (hi : i < l.length) : 0 ≤ pt l s.o s.f i ∧ pt l s.o s.f i ≤ s.f := by
  have h1 := pre_mono h.v s.o (k := i + 1) (i := i) (by omega) (by omega)
  have h2 := pre_mono h.v s.o (k := l.length) (i := i + 1) (by omega) (by omega)
  have a := fpre_nn h (k := i) (by omega)
  have b := fpre_nn h (k := i + 1) (by omega)
  have c1 := td_mono a.1 (Int.mul_le_mul_of_nonneg_left h1 h.f0) hp
  have c2 := td_mono b.1 (Int.mul_le_mul_of_nonneg_left h2 h.f0) hp
  have c3 := td_nn a.1 hp
  rw [tot h hp] at c2
  unfold pt
  omega
theorem ct_open {l : Rows} {o : Nat → Bool} {f : Int} {i : Nat} (h : ct l o f i = true) : o i = true ∧ mx l i ≠ 0 ∧ ba l i + pt l o f i > mx l i := by
  simp only [ct, Bool.and_eq_true, decide_eq_true_eq] at h
  exact ⟨h.1, h.2.1, h.2.2⟩
theorem cs_le {l : Rows} {s : St} (h : Inv l s) (hp : 0 < al l s.o) : ∀ k, k ≤ l.length → 0 ≤ cs l s.o s.f k ∧ cs l s.o s.f k ≤ (s.f * pre l s.o k).tdiv (al l s.o)
  | 0, _ => by simp [cs, pre]
  | k + 1, hk => by
    obtain ⟨a, b⟩ := cs_le h hp k (by omega)
    have h1 := pt_bd h hp (i := k) (by omega)
    have h2 : pt l s.o s.f k = (s.f * pre l s.o (k + 1)).tdiv (al l s.o) - (s.f * pre l s.o k).tdiv (al l s.o) := rfl
    simp only [cs]
    split
    · rename_i hc
      obtain ⟨_, c1, c2⟩ := ct_open hc
      have := (h.v.2 k (by omega)).2.2 c1
      omega
    · omega
theorem cs_f {l : Rows} {s : St} (h : Inv l s) (hp : 0 < al l s.o) {k : Nat} (hk : k ≤ l.length) : 0 ≤ cs l s.o s.f k ∧ cs l s.o s.f k ≤ s.f := by
  obtain ⟨a, b⟩ := cs_le h hp k hk
  have h2 := pre_mono h.v s.o (k := l.length) (i := k) (by omega) hk
  have c2 := td_mono (fpre_nn h hk).1 (Int.mul_le_mul_of_nonneg_left h2 h.f0) hp
  rw [tot h hp] at c2
  omega
theorem Inv.step {l : Rows} {s : St} (h : Inv l s) (hp : 0 < al l s.o) : Inv l (step l s) := by
  have hc := cs_f h hp (k := l.length) (Nat.le_refl _)
  have hf := h.f1
  refine ⟨h.v, by show 0 ≤ s.f - _; omega, by show s.f - _ ≤ _; omega, fun i hi ho => h.og i hi ?_, fun i hi => ?_⟩
  · have ho : (s.o i && !ct l s.o s.f i) = true := ho
    simp only [Bool.and_eq_true] at ho
    exact ho.1
  · show 0 ≤ (if ct l s.o s.f i = true then mx l i - ba l i else s.p i) ∧ (if ct l s.o s.f i = true then mx l i - ba l i else s.p i) ≤ 1000000
    split
    · rename_i hc
      obtain ⟨_, c1, c2⟩ := ct_open hc
      have h1 := (h.v.2 i hi).2.2 c1
      have h2 := (h.v.2 i hi).1
      omega
    · exact h.p0 i hi
theorem op_step (l : Rows) (s : St) : op (step l s).o l.length = (op s.o l.length).filter (fun i => !ct l s.o s.f i) := by
  unfold op; rw [List.filter_filter]
  congr 1
  funext i
  show (s.o i && !ct l s.o s.f i) = (!ct l s.o s.f i && s.o i)
  exact Bool.and_comm _ _
theorem cnt_step (l : Rows) (s : St) (hc : op (ct l s.o s.f) l.length ≠ []) : (op (step l s).o l.length).length < (op s.o l.length).length := by
  rw [op_step]
  obtain ⟨i, hi⟩ := List.exists_mem_of_ne_nil _ hc
  rw [mem_op] at hi
  rw [List.length_filter_lt_length_iff_exists]
  exact ⟨i, mem_op.2 ⟨hi.1, (ct_open hi.2).1⟩, by rw [hi.2]; decide⟩
/-! maps from places -/
def em (L : List Nat) : List (Int × List D) := L.map fun (i : Nat) => ((i : Int), [D.b true])
theorem em_find : ∀ (L : List Nat) (i : Nat), ((mfind (em L) (i : Int)).getD [D.b false]).getD 0 (.n 0) = D.b (decide (i ∈ L))
  | [], i => by simp [em, mfind]
  | j :: L, i => by
    have ih := em_find L i
    simp only [em, List.map_cons, mfind] at ih ⊢
    by_cases e : j = i
    · subst e; simp
    · rw [if_neg (by omega), ih]
      congr 1
      have : (i ∈ j :: L) ↔ i ∈ L := by simp; omega
      simp [this]
theorem em_del : ∀ (L : List Nat) (i : Nat), L.Nodup → mdel (em L) (i : Int) = em (L.filter (fun j => !(decide (j = i))))
  | [], i, _ => rfl
  | j :: L, i, h => by
    have h1 := List.nodup_cons.1 h
    have ih := em_del L i h1.2
    simp only [em, List.map_cons, mdel] at ih ⊢
    by_cases e : j = i
    · subst e
      rw [if_pos rfl, List.filter_cons_of_neg (by simp)]
      congr 1
      symm
      rw [List.filter_eq_self]
      intro a ha
      have : a ≠ j := fun e => h1.1 (e ▸ ha)
      simp [this]
    · rw [if_neg (by omega), List.filter_cons_of_pos (by simp [e]), ih]
      rfl
theorem em_put : ∀ (L : List Nat) (i : Nat), i ∉ L → mput (em L) (i : Int) [D.b true] = em (L ++ [i])
  | [], i, _ => rfl
  | j :: L, i, h => by
    have h1 : j ≠ i ∧ i ∉ L := ⟨fun e => h (by simp [e]), fun e => h (by simp [e])⟩
    have ih := em_put L i h1.2
    simp only [em, List.map_cons, mput, List.cons_append] at ih ⊢
    rw [if_neg (by omega), ih]
theorem op_nodup (o : Nat → Bool) (n : Nat) : (op o n).Nodup := by
  unfold op; exact List.Nodup.sublist List.filter_sublist List.nodup_range
theorem op_succ (o : Nat → Bool) (k : Nat) : op o (k + 1) = if o k = true then op o k ++ [k] else op o k := by
  unfold op; rw [List.range_succ, List.filter_append]
  split
  · rename_i h; rw [List.filter_cons_of_pos h]; rfl
  · rename_i h; rw [List.filter_cons_of_neg h]; simp
theorem op_notin (o : Nat → Bool) (k : Nat) : k ∉ op o k := by rw [mem_op]; omega
theorem em_len (L : List Nat) : (em L).length = L.length := by simp [em]
/-- the sum of Grow -/
theorem growth_ok (l : Rows) (hv : Vd l) (o : Nat → Bool) : SemF Try.prog 86 [.slc 0 3 0 l.length, .mp 1] ⟨2, 2, [(0, .arr [.int .i64, .int .i64, .int .i64] .rd (.recs l)), (1, .map .i64 [.bool] false (em (op o l.length)))]⟩ (fun v _ => v = .int .i64 (al l o) ∧ nameless v = true) := by
  refine enter tt_ok Try.func86 (nt := 24) (cd := body Try.f86) rfl rfl rfl rfl ?_
  have h64 := hv.1.2
  intro _
  refine loop2 tt_ok [10, 5] [] 2 (fun k : Fin (l.length + 1) => [(10, .int .i64 (k : Nat)), (5, .int .i64 (pre l o k))]) (fun _ => []) (fun k => l.length - k) ⟨0, by omega⟩ ?_
  intro _
  refine ⟨⟨th [] 2, rfl, rfl, rfl, rfl, rfl, rfl, ?_, ?_⟩, ?_⟩
  · (repeat' first | exact trivial | exact rfl | refine And.intro ?_ ?_)
  · (repeat' first | exact trivial | exact rfl | refine And.intro ?_ ?_)
  intro ⟨k, hk⟩
  have z : 0 + k = k := Nat.zero_add k
  intro _; refine ⟨fun g => ?_, fun g => ?_⟩
  · have hkl := of_decide_eq_true (show decide ((k : Int) < (l.length : Int)) = true from g)
    intro _; refine ⟨show 0 ≤ (k : Int) ∧ (k : Int) < (l.length : Int) by omega, ?_⟩
    intro _; refine ⟨show 0 + (k : Int).toNat < l.length by omega, ?_⟩
    have hb := pre_bd hv o k (by omega)
    have hg := (hv.2 k (by omega)).2.1
    have eo : (((mfind (em (op o l.length)) (k : Int)).getD [D.b false]).getD 0 (.n 0)).bool = o k := by
      rw [em_find]
      show decide (k ∈ op o l.length) = o k
      have : (k ∈ op o l.length) ↔ o k = true := by rw [mem_op]; exact ⟨fun h => h.2, fun h => ⟨by omega, h⟩⟩
      by_cases e : o k = true
      · rw [e]; exact decide_eq_true (this.2 e)
      · rw [decide_eq_false (fun h => e (this.1 h))]; simpa using e
    intro _; refine ⟨fun g => ?_, fun g => ?_⟩
    · have g : (((mfind (em (op o l.length)) (k : Int)).getD [D.b false]).getD 0 (.n 0)).bool = true := g
      rw [eo] at g
      refine ⟨⟨k + 1, by omega⟩, by simp; omega, th [] 2, rfl, rfl, rfl, rfl, rfl, rfl, ?_, ?_⟩
      · (repeat' first | exact trivial | exact rfl | refine And.intro ?_ ?_)
        · exact (wrap_nat k (by omega)).symm
        · show pre l o (k + 1) = IntKind.i64.wrap (pre l o k + gr l (0 + k))
          rw [z, wrapS _ ⟨by omega, by omega⟩]
          simp only [pre]; rw [if_pos g]
      · (repeat' first | exact trivial | exact rfl | refine And.intro ?_ ?_)
    · have g : (((mfind (em (op o l.length)) (k : Int)).getD [D.b false]).getD 0 (.n 0)).bool = false := g
      rw [eo] at g
      refine ⟨⟨k + 1, by omega⟩, by simp; omega, th [] 2, rfl, rfl, rfl, rfl, rfl, rfl, ?_, ?_⟩
      · (repeat' first | exact trivial | exact rfl | refine And.intro ?_ ?_)
        · exact (wrap_nat k (by omega)).symm
        · show pre l o (k + 1) = pre l o k
          simp only [pre]; rw [if_neg (by rw [g]; decide)]; omega
      · (repeat' first | exact trivial | exact rfl | refine And.intro ?_ ?_)
  · have hkl := of_decide_eq_false (show decide ((k : Int) < (l.length : Int)) = false from g)
    have hkl : k = l.length := by omega
    subst hkl
    intro _
    exact ⟨rfl, rfl⟩
def bs (l : Rows) : Nat → Int
  | 0 => 0
  | k + 1 => bs l k + ba l k
def F0 (l : Rows) (sp gp : Int) : Int := max (sp - gp * ((l.length : Int) - 1) - bs l l.length) 0
def s0 (l : Rows) (F : Int) : St := ⟨fun i => decide (0 < gr l i), fun _ => 0, F⟩
def TT (l : Rows) (F : Int) : Nat → Int := fin l l.length (s0 l F)
def ShOk (l : Rows) (sp gp : Int) : Prop := Vd l ∧ (0 ≤ sp ∧ sp ≤ 1000000) ∧ (0 ≤ gp ∧ gp ≤ 100000)
instance decShOk (l : Rows) (sp gp : Int) : Decidable (ShOk l sp gp) := inferInstanceAs (Decidable (_ ∧ _))
def sh (l : Rows) (sp gp : Int) : List Int × Int := if ShOk l sp gp then (tab l.length (fun i => ba l i + TT l (F0 l sp gp) i), 0) else ([], 1)
theorem bs_bd {l : Rows} (hv : Vd l) : ∀ k, k ≤ l.length → 0 ≤ bs l k ∧ bs l k ≤ k * 1000000
  | 0, _ => by simp [bs]
  | k + 1, hk => by
    obtain ⟨a, b⟩ := bs_bd hv k (by omega)
    have := (hv.2 k (by omega)).1
    simp only [bs]
    omega
theorem inv0 {l : Rows} {F : Int} (hv : Vd l) (h0 : 0 ≤ F) (h1 : F ≤ 1000000) : Inv l (s0 l F) :=
  ⟨hv, h0, h1, fun i _ h => of_decide_eq_true h, fun i _ => ⟨Int.le_refl _, by show (0 : Int) ≤ _; omega⟩⟩
theorem op_le (o : Nat → Bool) (n : Nat) : (op o n).length ≤ n := by
  unfold op; exact Nat.le_trans (List.length_filter_le _ _) (by simp)
abbrev ShI (l : Rows) (T : Nat → Int) := { x : St × Nat × (Nat → Int) // Inv l x.1 ∧ (op x.1.o l.length).length ≤ x.2.1 ∧ (∀ i, i < l.length → fin l x.2.1 x.1 i = T i) ∧ ∀ i, i < l.length → x.1.o i = false → x.2.2 i = x.1.p i }
theorem fin_empty {l : Rows} {s : St} (k : Nat) (h : op s.o l.length = []) : fin l k s = s.p := by
  cases k with
  | zero => rfl
  | succ k => simp only [fin]; rw [if_pos h]
theorem fin_last {l : Rows} {s : St} {k : Nat} (h : op s.o l.length ≠ []) (hk : (op s.o l.length).length ≤ k) (hc : op (ct l s.o s.f) l.length = []) : fin l k s = lastP l s := by
  cases k with
  | zero => exact absurd (List.length_eq_zero_iff.1 (by omega)) h
  | succ k => simp only [fin]; rw [if_neg h, if_pos hc]
theorem fin_next {l : Rows} {s : St} {k : Nat} (h : op s.o l.length ≠ []) (hk : (op s.o l.length).length ≤ k) (hc : op (ct l s.o s.f) l.length ≠ []) : ∃ k', k' < k ∧ fin l k s = fin l k' (step l s) ∧ (op (step l s).o l.length).length ≤ k' := by
  cases k with
  | zero => exact absurd (List.length_eq_zero_iff.1 (by omega)) h
  | succ k =>
    refine ⟨k, by omega, ?_, ?_⟩
    · simp only [fin]; rw [if_neg h, if_neg hc]
    · have := cnt_step l s hc; omega
theorem empty_closed {o : Nat → Bool} {n : Nat} (h : op o n = []) : ∀ i, i < n → o i = false := fun i hi => by
  cases e : o i with
  | false => rfl
  | true => have : i ∈ op o n := mem_op.2 ⟨hi, e⟩
            rw [h] at this; cases this
theorem fin_bd {l : Rows} : ∀ (k : Nat) (s : St), Inv l s → ∀ i, i < l.length → 0 ≤ fin l k s i ∧ fin l k s i ≤ 1000000
  | 0, s, h, i, hi => h.p0 i hi
  | k + 1, s, h, i, hi => by
    simp only [fin]
    split
    · exact h.p0 i hi
    · rename_i hne
      have hp := al_pos h hne
      split
      · unfold lastP
        split
        · have := pt_bd h hp hi; have := h.f1; omega
        · exact h.p0 i hi
      · exact fin_bd k (step l s) (h.step hp) i hi
def CI (c : List Nat) : List Int := c.map fun (i : Nat) => (i : Int)
theorem CI_len (c : List Nat) : List.length (CI c) = c.length := by simp [CI]
theorem CI_get (c : List Nat) {j : Nat} (h : j < c.length) : (CI c).getD j 0 = ((c.getD j 0 : Nat) : Int) := by
  simp [CI, List.getD_eq_getElem?_getD, h]
theorem getD_mem {c : List Nat} {j : Nat} (h : j < c.length) : c.getD j 0 ∈ c := by
  rw [List.getD_eq_getElem?_getD, List.getElem?_eq_getElem h]; exact List.getElem_mem h
theorem mem_take_succ {c : List Nat} {j i : Nat} (h : j < c.length) : i ∈ c.take (j + 1) ↔ i ∈ c.take j ∨ i = c.getD j 0 := by
  rw [List.take_succ_eq_append_getElem h]
  have : c.getD j 0 = c[j] := by rw [List.getD_eq_getElem?_getD, List.getElem?_eq_getElem h]; rfl
  rw [this, List.mem_append, List.mem_singleton]
def su (l : Rows) (c : List Nat) : Int := c.foldr (fun i a => (mx l i - ba l i) + a) 0
theorem su_app (l : Rows) (a b : List Nat) : su l (a ++ b) = su l a + su l b := by
  induction a with
  | nil => simp [su]
  | cons x a ih => simp only [su, List.cons_append, List.foldr_cons] at ih ⊢; omega
theorem su_cs (l : Rows) (o : Nat → Bool) (f : Int) : ∀ k, su l (op (ct l o f) k) = cs l o f k
  | 0 => rfl
  | k + 1 => by
    rw [op_succ]
    simp only [cs]
    split
    · rw [su_app, su_cs l o f k]; simp [su]
    · rw [su_cs l o f k]; omega
theorem su_bd {l : Rows} {c : List Nat} (h : ∀ i, i ∈ c → 0 ≤ mx l i - ba l i ∧ mx l i - ba l i ≤ 1000000) : 0 ≤ su l c ∧ su l c ≤ c.length * 1000000 := by
  induction c with
  | nil => simp [su]
  | cons x c ih =>
    have := ih (fun i hi => h i (by simp [hi]))
    have := h x (by simp)
    simp only [su, List.foldr_cons, List.length_cons] at this ih ⊢
    simp only [su] at *
    omega
theorem su_take {l : Rows} {c : List Nat} {j : Nat} (h : j < c.length) : su l (c.take (j + 1)) = su l (c.take j) + (mx l (c.getD j 0) - ba l (c.getD j 0)) := by
  rw [List.take_succ_eq_append_getElem h, su_app]
  have : c.getD j 0 = c[j] := by rw [List.getD_eq_getElem?_getD, List.getElem?_eq_getElem h]; rfl
  rw [this]; simp [su]
def qk (l : Rows) (s : St) (q : Nat → Int) (k : Nat) : Nat → Int := fun i => if i < k ∧ s.o i = true then pt l s.o s.f i else q i
def qc (l : Rows) (c : List Nat) (q : Nat → Int) : Nat → Int := fun i => if i ∈ c then mx l i - ba l i else q i
def oc (o : Nat → Bool) (c : List Nat) : Nat → Bool := fun i => o i && !decide (i ∈ c)
theorem tab_cell {n : Nat} (f : Nat → Int) {k : Nat} (h : k < n) {x : Int} : ((tab n f).set k x).getD k 0 = x := by
  rw [tab_set, tab_get _ h, if_pos rfl]
def TQ (l : Rows) (sp gp : Int) : V → H → Prop := fun v h' => v = .tup [.grw 1 (sh l sp gp).1.length, .int .i64 (sh l sp gp).2] ∧ h' = ⟨2, 1, [(1, .arr [.int .i64] .own (.ints (sh l sp gp).1))]⟩
set_option maxHeartbeats 4000000 in
theorem share_ok (l : Rows) (sp gp : Int) (hl : l.length ≤ 9223372036854775807) : SemF Try.prog 58 [.slc 0 3 0 l.length, .int .i64 sp, .int .i64 gp] ⟨1, 1, [(0, .arr [.int .i64, .int .i64, .int .i64] .rd (.recs l))]⟩ (TQ l sp gp) := by
  refine SemF.ret ?_
  refine enter tt_ok Try.func58 (nt := 81) (cd := body Try.f58) rfl rfl rfl rfl ?_
  have bad : ¬ ShOk l sp gp → ∀ nx hx, Nat.ble 1 nx = true → Ret 1 (TQ l sp gp) (.tup [.nils, .int .i64 1]) ⟨nx, 1, hx⟩ := fun he nx hx hn => by
    have e1 : sh l sp gp = ([], 1) := by unfold sh; rw [if_neg he]
    refine ⟨[(1, none)], .tup [.grw 1 0, .int .i64 1], ⟨2, 1, [(1, .arr [.int .i64] .own (.ints []))]⟩, rfl, rfl, rfl, rfl, ?_, ?_, ?_, ?_⟩
    · (repeat' first | exact trivial | exact rfl | refine And.intro ?_ ?_)
    · (repeat' first | exact trivial | exact rfl | refine And.intro ?_ ?_)
    · rw [e1]; rfl
    · rw [e1]
  intro _
  refine call_pure [(0, some 0)] (valid_ok l hl) rfl rfl rfl ?_ ?_ ?_
  · (repeat' first | exact trivial | exact rfl | refine And.intro ?_ ?_)
  · (repeat' first | exact trivial | exact rfl | refine And.intro ?_ ?_)
  intro v hv _
  subst hv
  intro _; refine ⟨fun g => ?_, fun g => ?_⟩
  · have g : (!decide (Vd l)) = true := g
    rw [Bool.not_eq_true'] at g
    have g := of_decide_eq_false g
    intro _
    exact bad (fun h => g h.1) _ _ rfl
  have g : (!decide (Vd l)) = false := g
  rw [Bool.not_eq_false'] at g
  have hv := of_decide_eq_true g
  intro _
  refine len_test _ _ _ ?_
  intro _; refine ⟨fun g => ?_, fun g => ?_⟩
  · have g : (!decide (0 ≤ sp ∧ sp ≤ 1000000)) = true := g
    rw [Bool.not_eq_true'] at g
    have g := of_decide_eq_false g
    intro _
    exact bad (fun h => g h.2.1) _ _ rfl
  have g : (!decide (0 ≤ sp ∧ sp ≤ 1000000)) = false := g
  rw [Bool.not_eq_false'] at g
  have hs := of_decide_eq_true g
  intro _
  refine gap_test _ _ _ ?_
  intro _; refine ⟨fun g => ?_, fun g => ?_⟩
  · have g : (!decide (0 ≤ gp ∧ gp ≤ 100000)) = true := g
    rw [Bool.not_eq_true'] at g
    have g := of_decide_eq_false g
    intro _
    exact bad (fun h => g h.2.2) _ _ rfl
  have g : (!decide (0 ≤ gp ∧ gp ≤ 100000)) = false := g
  rw [Bool.not_eq_false'] at g
  have hg := of_decide_eq_true g
  have e1 : sh l sp gp = (tab l.length (fun i => ba l i + TT l (F0 l sp gp) i), 0) := by unfold sh; rw [if_pos ⟨hv, hs, hg⟩]
  have h64 := hv.1
  have hgn : 0 ≤ gp * ((l.length : Int) - 1) ∧ gp * ((l.length : Int) - 1) ≤ 6300000 := by
    refine ⟨Int.mul_nonneg hg.1 (by omega), ?_⟩
    have h1 : gp * ((l.length : Int) - 1) ≤ 100000 * ((l.length : Int) - 1) := Int.mul_le_mul_of_nonneg_right hg.2 (by omega)
    omega
  have eL0 : IntKind.i64.wrap (sp - IntKind.i64.wrap (gp * IntKind.i64.wrap ((l.length : Int) - 1))) = sp - gp * ((l.length : Int) - 1) := by
    rw [wrapS ((l.length : Int) - 1) ⟨by omega, by omega⟩, wrapS (gp * ((l.length : Int) - 1)) ⟨by omega, by omega⟩, wrapS _ ⟨by omega, by omega⟩]
  have hF := bs_bd hv l.length (Nat.le_refl _)
  have hF0 : 0 ≤ F0 l sp gp ∧ F0 l sp gp ≤ 1000000 := by unfold F0; omega
  intro _; refine ⟨⟨by omega, by omega, by omega⟩, ?_⟩
  intro _; refine ⟨rfl, ?_⟩
  intro _
  refine loop2 tt_ok [41, 8] [1, 2] 3 (fun k : Fin (l.length + 1) => [(41, .int .i64 (k : Nat)), (8, .int .i64 (sp - gp * ((l.length : Int) - 1) - bs l k))]) (fun k => [(1, .map .i64 [.bool] false (em (op (s0 l 0).o k))), (2, .arr [.int .i64] .own (.ints (tab l.length (fun i => if i < (k : Nat) then ba l i else 0))))]) (fun k => l.length - k) ⟨0, by omega⟩ ?_
  intro _
  refine ⟨⟨th [] 3, rfl, rfl, rfl, rfl, rfl, rfl, ?_, ?_⟩, ?_⟩
  · (repeat' first | exact trivial | exact rfl | refine And.intro ?_ ?_)
    show sp - gp * ((l.length : Int) - 1) - bs l 0 = IntKind.i64.wrap (sp - IntKind.i64.wrap (gp * IntKind.i64.wrap ((l.length : Int) - 1)))
    rw [eL0]; simp [bs]
  · (repeat' first | exact trivial | exact rfl | refine And.intro ?_ ?_)
    have : (l.length : Int).toNat = l.length := by omega
    show tab l.length _ = List.replicate (l.length : Int).toNat 0
    rw [this, tab_zero]
    exact tab_ext (fun i _ => if_neg (by simp))
  intro ⟨k, hk⟩
  have z : 0 + k = k := Nat.zero_add k
  intro _; refine ⟨fun g => ?_, fun g => ?_⟩
  · have hkl := of_decide_eq_true (show decide ((k : Int) < (l.length : Int)) = true from g)
    have hb := bs_bd hv k (by omega)
    have hbk := (hv.2 k (by omega)).1
    intro _; refine ⟨show 0 ≤ (k : Int) ∧ (k : Int) < (l.length : Int) by omega, ?_⟩
    intro _; refine ⟨show 0 + (k : Int).toNat < l.length by omega, ?_⟩
    intro _; refine ⟨show 0 ≤ (k : Int) ∧ (k : Int) < ((l.length : Int).toNat : Int) by omega, ?_⟩
    intro _; refine ⟨show (k : Int).toNat < List.length (tab l.length _) by rw [tab_len]; omega, ?_⟩
    have stepW : tab l.length (fun i => if i < k + 1 then ba l i else 0) = (tab l.length (fun i => if i < k then ba l i else 0)).set (k : Int).toNat (ba l (0 + k)) := by
      rw [z]
      show _ = (tab l.length (fun i => if i < k then ba l i else 0)).set k (ba l k)
      rw [tab_set]
      refine tab_ext (fun i _ => ?_)
      by_cases e : i = k
      · subst e; simp
      · by_cases e2 : i < k
        · rw [if_pos (show i < k + 1 by omega), if_neg e, if_pos e2]
        · rw [if_neg (show ¬ i < k + 1 by omega), if_neg e, if_neg e2]
    have stepB : sp - gp * ((l.length : Int) - 1) - bs l (k + 1) = IntKind.i64.wrap (sp - gp * ((l.length : Int) - 1) - bs l k - ba l (0 + k)) := by
      rw [z, wrapS _ ⟨by omega, by omega⟩]
      simp only [bs]; omega
    intro _; refine ⟨fun g => ?_, fun g => ?_⟩
    · have g : decide (gr l (0 + k) > 0) = true := g
      rw [z] at g
      refine ⟨⟨k + 1, by omega⟩, by simp; omega, th [] 3, rfl, rfl, rfl, rfl, rfl, rfl, ?_, ?_⟩
      · (repeat' first | exact trivial | exact rfl | refine And.intro ?_ ?_)
        · exact (wrap_nat k (by omega)).symm
        · exact stepB
      · (repeat' first | exact trivial | exact rfl | refine And.intro ?_ ?_)
        · show em (op (s0 l 0).o (k + 1)) = mput (em (op (s0 l 0).o k)) (k : Int) [D.b true]
          rw [em_put _ _ (op_notin _ _), op_succ, if_pos (show (s0 l 0).o k = true from g)]
        · exact stepW
    · have g : decide (gr l (0 + k) > 0) = false := g
      rw [z] at g
      have g := of_decide_eq_false g
      refine ⟨⟨k + 1, by omega⟩, by simp; omega, th [] 3, rfl, rfl, rfl, rfl, rfl, rfl, ?_, ?_⟩
      · (repeat' first | exact trivial | exact rfl | refine And.intro ?_ ?_)
        · exact (wrap_nat k (by omega)).symm
        · exact stepB
      · (repeat' first | exact trivial | exact rfl | refine And.intro ?_ ?_)
        · show em (op (s0 l 0).o (k + 1)) = em (op (s0 l 0).o k)
          rw [op_succ, if_neg (fun h : (s0 l 0).o k = true => g (of_decide_eq_true h))]
        · exact stepW
  have hkl := of_decide_eq_false (show decide ((k : Int) < (l.length : Int)) = false from g)
  have hkl : k = l.length := by omega
  subst hkl
  intro _
  refine enter tt_ok Try.func69 (nt := 96) (cd := body Try.f69) rfl rfl rfl rfl ?_
  intro _; refine ⟨⟨by omega, by omega, by omega⟩, ?_⟩
  intro _; refine ⟨rfl, ?_⟩
  intro _
  have eM : max (sp - gp * ((l.length : Int) - 1) - bs l l.length) 0 = F0 l sp gp := rfl
  refine meet2 [2] [1, 3] 4 (.exit 0) (fun _ : { q : Nat → Int // ∀ i, i < l.length → q i = TT l (F0 l sp gp) i } => []) (fun q => [(3, .arr [.int .i64] .own (.ints (tab l.length q.1)))]) ?_
  intro _
  refine ⟨?_, fun ⟨q, hq⟩ => ?_⟩
  · refine loop2 tt_ok [2] [1, 3] 4 (fun x : ShI l (TT l (F0 l sp gp)) => [(2, .int .i64 x.1.1.f)]) (fun x => [(1, .map .i64 [.bool] false (em (op x.1.1.o l.length))), (3, .arr [.int .i64] .own (.ints (tab l.length x.1.2.2)))]) (fun x => x.1.2.1) ⟨(s0 l (F0 l sp gp), l.length, fun _ => 0), inv0 hv hF0.1 hF0.2, op_le _ _, fun _ _ => rfl, fun _ _ _ => rfl⟩ ?_
    intro _
    refine ⟨⟨th [] 4, rfl, rfl, rfl, rfl, rfl, rfl, ?_, ?_⟩, ?_⟩
    · (repeat' first | exact trivial | exact rfl | refine And.intro ?_ ?_)
    · (repeat' first | exact trivial | exact rfl | refine And.intro ?_ ?_)
      have : (l.length : Int).toNat = l.length := by omega
      show tab l.length _ = List.replicate (l.length : Int).toNat 0
      rw [this, tab_zero]
    intro ⟨⟨s, kf, q⟩, hI, hc, hT, hq⟩
    have hI : Inv l s := hI
    have hc : (op s.o l.length).length ≤ kf := hc
    have hT : ∀ i, i < l.length → fin l kf s i = TT l (F0 l sp gp) i := hT
    have hq : ∀ i, i < l.length → s.o i = false → q i = s.p i := hq
    intro _; refine ⟨fun g => ?_, fun g => ?_⟩
    rotate_left
    · have g := of_decide_eq_false (show decide (((em (op s.o l.length)).length : Int) > 0) = false from g)
      rw [em_len] at g
      have he : op s.o l.length = [] := List.length_eq_zero_iff.1 (by omega)
      refine Or.inl ⟨⟨q, fun i hi => ?_⟩, rfl, th [] 4, rfl, rfl, rfl, rfl, rfl, rfl, ?_, ?_⟩
      · rw [← hT i hi, fin_empty kf he]; exact hq i hi (empty_closed he i hi)
      · (repeat' first | exact trivial | exact rfl | refine And.intro ?_ ?_)
      · (repeat' first | exact trivial | exact rfl | refine And.intro ?_ ?_)
    have g := of_decide_eq_true (show decide (((em (op s.o l.length)).length : Int) > 0) = true from g)
    rw [em_len] at g
    have hne : op s.o l.length ≠ [] := fun e => by rw [e] at g; simp at g
    have hp := al_pos hI hne
    have hf0 := hI.f0
    have hf1 := hI.f1
    intro _
    refine call_pure [(0, some 0), (1, some 1)] (growth_ok l hv s.o) rfl rfl rfl ?_ ?_ ?_
    · (repeat' first | exact trivial | exact rfl | refine And.intro ?_ ?_)
    · (repeat' first | exact trivial | exact rfl | refine And.intro ?_ ?_)
    intro v hv _
    subst hv
    intro _
    refine enter tt_ok Try.func85 (nt := 8) (cd := body Try.f85) rfl rfl rfl rfl ?_
    intro _
    intro _
    refine loop2 tt_ok [27, 9] [3, 6, 7, 8] 9 (fun k : Fin (l.length + 1) => [(27, .int .i64 (k : Nat)), (9, .grw 8 (op (ct l s.o s.f) k).length)]) (fun k => [(3, .arr [.int .i64] .own (.ints (tab l.length (qk l s q k)))), (6, .cells [.int .i64 (pre l s.o k)]), (7, .cells [.int .i64 ((s.f * pre l s.o k).tdiv (al l s.o))]), (8, .arr [.int .i64] .grow (.ints (CI (op (ct l s.o s.f) k))))]) (fun k => l.length - k) ⟨0, by omega⟩ ?_
    intro _
    refine ⟨⟨th [(8, none)] 9, rfl, rfl, rfl, rfl, rfl, rfl, ?_, ?_⟩, ?_⟩
    · (repeat' first | exact trivial | exact rfl | refine And.intro ?_ ?_)
    · (repeat' first | exact trivial | exact rfl | refine And.intro ?_ ?_)
      show (s.f * 0).tdiv (al l s.o) = 0
      simp
    intro ⟨k, hk⟩
    have z : 0 + k = k := Nat.zero_add k
    intro _; refine ⟨fun g => ?_, fun g => ?_⟩
    · have hkl := of_decide_eq_true (show decide ((k : Int) < (l.length : Int)) = true from g)
      intro _; refine ⟨show 0 ≤ (k : Int) ∧ (k : Int) < (l.length : Int) by omega, ?_⟩
      intro _; refine ⟨show 0 + (k : Int).toNat < l.length by omega, ?_⟩
      have hb := pre_bd hv s.o k (by omega)
      have hgk := (hv.2 k (by omega)).2.1
      have eo : (((mfind (em (op s.o l.length)) (k : Int)).getD [D.b false]).getD 0 (.n 0)).bool = s.o k := by
        rw [em_find]
        show decide (k ∈ op s.o l.length) = s.o k
        have : (k ∈ op s.o l.length) ↔ s.o k = true := by rw [mem_op]; exact ⟨fun h => h.2, fun h => ⟨by omega, h⟩⟩
        by_cases e : s.o k = true
        · rw [e]; exact decide_eq_true (this.2 e)
        · rw [decide_eq_false (fun h => e (this.1 h))]; simpa using e
      have ek := (wrap_nat k (by omega)).symm
      intro _; refine ⟨fun g => ?_, fun g => ?_⟩
      · have g : (!(((mfind (em (op s.o l.length)) (k : Int)).getD [D.b false]).getD 0 (.n 0)).bool) = true := g
        rw [eo, Bool.not_eq_true'] at g
        have hct : ct l s.o s.f k = false := by unfold ct; rw [g]; rfl
        have e2 : op (ct l s.o s.f) (k + 1) = op (ct l s.o s.f) k := by rw [op_succ, if_neg (by rw [hct]; decide)]
        have e3 : pre l s.o (k + 1) = pre l s.o k := by simp only [pre]; rw [if_neg (by rw [g]; decide)]; omega
        refine ⟨⟨k + 1, by omega⟩, by simp; omega, th [] 9, rfl, rfl, rfl, rfl, rfl, rfl, ?_, ?_⟩
        · (repeat' first | exact trivial | exact rfl | refine And.intro ?_ ?_)
          · exact ek
          · exact congrArg List.length e2
        · (repeat' first | exact trivial | exact rfl | refine And.intro ?_ ?_)
          · show tab l.length (qk l s q (k + 1)) = tab l.length (qk l s q k)
            refine tab_ext (fun i _ => ?_)
            unfold qk
            by_cases e : i = k
            · subst e; rw [if_neg (by rw [g]; simp), if_neg (by rw [g]; simp)]
            · by_cases e4 : i < k ∧ s.o i = true
              · rw [if_pos e4, if_pos ⟨by omega, e4.2⟩]
              · rw [if_neg e4, if_neg (fun h => e4 ⟨by omega, h.2⟩)]
          · exact e3
          · show (s.f * pre l s.o (k + 1)).tdiv (al l s.o) = (s.f * pre l s.o k).tdiv (al l s.o)
            rw [e3]
          · exact congrArg CI e2
      have g : (!(((mfind (em (op s.o l.length)) (k : Int)).getD [D.b false]).getD 0 (.n 0)).bool) = false := g
      rw [eo, Bool.not_eq_false'] at g
      have ho := g
      have e3 : pre l s.o (k + 1) = pre l s.o k + gr l k := by simp only [pre]; rw [if_pos ho]
      have hf := fpre_nn hI (k := k + 1) (by omega)
      have hfk := fpre_nn hI (k := k) (by omega)
      have hpt := pt_bd hI hp (i := k) (by omega)
      intro _
      refine enter tt_ok Try.func93 (nt := 20) (cd := body Try.f93) rfl rfl rfl rfl ?_
      intro _; refine ⟨show al l s.o ≠ 0 by omega, ?_⟩
      intro _
      intro _; refine ⟨show 0 ≤ (k : Int) ∧ (k : Int) < ((l.length : Int).toNat : Int) by omega, ?_⟩
      intro _; refine ⟨show (k : Int).toNat < List.length (tab l.length _) by rw [tab_len]; omega, ?_⟩
      -- what the closure has answered
      have eB : IntKind.i64.wrap (pre l s.o k + gr l (0 + k)) = pre l s.o (k + 1) := by
        rw [z, wrapS _ ⟨by omega, by omega⟩, e3]
      have eE : IntKind.i64.wrap ((IntKind.i64.wrap (s.f * IntKind.i64.wrap (pre l s.o k + gr l (0 + k)))).tdiv (al l s.o)) = (s.f * pre l s.o (k + 1)).tdiv (al l s.o) := by
        rw [eB, wrapS (s.f * pre l s.o (k + 1)) ⟨by omega, by omega⟩]
        have h1 := td_nn hf.1 hp
        have h2 := td_nn hfk.1 hp
        have h3 : pt l s.o s.f k = (s.f * pre l s.o (k + 1)).tdiv (al l s.o) - (s.f * pre l s.o k).tdiv (al l s.o) := rfl
        have h4 := pre_mono hv s.o (k := l.length) (i := k) (by omega) (by omega)
        have h5 := td_mono hfk.1 (Int.mul_le_mul_of_nonneg_left h4 hf0) hp
        rw [tot hI hp] at h5
        exact wrapS _ ⟨by omega, by omega⟩
      have eP : IntKind.i64.wrap (IntKind.i64.wrap ((IntKind.i64.wrap (s.f * IntKind.i64.wrap (pre l s.o k + gr l (0 + k)))).tdiv (al l s.o)) - (s.f * pre l s.o k).tdiv (al l s.o)) = pt l s.o s.f k := by
        rw [eE]; exact wrapS (pt l s.o s.f k) ⟨by omega, by omega⟩
      have stepP : tab l.length (qk l s q (k + 1)) = (tab l.length (qk l s q k)).set (k : Int).toNat (IntKind.i64.wrap (IntKind.i64.wrap ((IntKind.i64.wrap (s.f * IntKind.i64.wrap (pre l s.o k + gr l (0 + k)))).tdiv (al l s.o)) - (s.f * pre l s.o k).tdiv (al l s.o))) := by
        rw [eP]
        show _ = (tab l.length (qk l s q k)).set k (pt l s.o s.f k)
        rw [tab_set]
        refine tab_ext (fun i _ => ?_)
        unfold qk
        by_cases e : i = k
        · subst e; rw [if_pos ⟨by omega, ho⟩, if_pos rfl]
        · rw [if_neg e]
          by_cases e4 : i < k ∧ s.o i = true
          · rw [if_pos e4, if_pos ⟨by omega, e4.2⟩]
          · rw [if_neg e4, if_neg (fun h => e4 ⟨by omega, h.2⟩)]
      have noCut : ct l s.o s.f k = false → op (ct l s.o s.f) (k + 1) = op (ct l s.o s.f) k := fun h => by rw [op_succ, if_neg (by rw [h]; decide)]
      have back : op (ct l s.o s.f) (k + 1) = op (ct l s.o s.f) k → True := fun _ => trivial
      intro _; refine ⟨fun g => ?_, fun g => ?_⟩
      rotate_left
      · have g : (mx l (0 + k) != 0) = false := g
        rw [z] at g
        have g4 : mx l k = 0 := by simpa using g
        have hct : ct l s.o s.f k = false := by unfold ct; rw [ho, decide_eq_false (show ¬ mx l k ≠ 0 from fun h => h g4)]; rfl
        intro _; refine ⟨by kernel_rfl, ?_⟩
        refine ⟨⟨k + 1, by omega⟩, by simp; omega, th [] 9, rfl, rfl, rfl, rfl, rfl, rfl, ?_, ?_⟩
        · (repeat' first | exact trivial | exact rfl | refine And.intro ?_ ?_)
          · exact ek
          · exact congrArg List.length (noCut hct)
        · (repeat' first | exact trivial | exact rfl | refine And.intro ?_ ?_)
          · exact stepP
          · exact eB.symm
          · exact eE.symm
          · exact congrArg CI (noCut hct)
      have g : (mx l (0 + k) != 0) = true := g
      rw [z] at g
      have g4 : mx l k ≠ 0 := by simpa using g
      have hmk := (hv.2 k (by omega)).2.2 g4
      have hbk := (hv.2 k (by omega)).1
      intro _; refine ⟨show 0 ≤ (k : Int) ∧ (k : Int) < ((l.length : Int).toNat : Int) by omega, ?_⟩
      intro _; refine ⟨show (k : Int).toNat < List.length ((tab l.length (qk l s q k)).set (k : Int).toNat _) by rw [List.length_set, tab_len]; omega, ?_⟩
      intro _; refine ⟨by kernel_rfl, ?_⟩
      have eS : IntKind.i64.wrap (ba l (0 + k) + ((tab l.length (qk l s q k)).set (k : Int).toNat (IntKind.i64.wrap (IntKind.i64.wrap ((IntKind.i64.wrap (s.f * IntKind.i64.wrap (pre l s.o k + gr l (0 + k)))).tdiv (al l s.o)) - (s.f * pre l s.o k).tdiv (al l s.o)))).getD (k : Int).toNat 0) = ba l k + pt l s.o s.f k := by
        rw [eP, z]
        show IntKind.i64.wrap (ba l k + ((tab l.length (qk l s q k)).set k (pt l s.o s.f k)).getD k 0) = _
        rw [tab_cell _ (by omega)]
        exact wrapS _ ⟨by omega, by omega⟩
      intro _; refine ⟨fun g => ?_, fun g => ?_⟩
      · have g : decide (IntKind.i64.wrap (ba l (0 + k) + ((tab l.length (qk l s q k)).set (k : Int).toNat (IntKind.i64.wrap (IntKind.i64.wrap ((IntKind.i64.wrap (s.f * IntKind.i64.wrap (pre l s.o k + gr l (0 + k)))).tdiv (al l s.o)) - (s.f * pre l s.o k).tdiv (al l s.o)))).getD (k : Int).toNat 0) > mx l (0 + k)) = true := g
        rw [eS, z] at g
        have g := of_decide_eq_true g
        have hct : ct l s.o s.f k = true := by unfold ct; rw [ho, decide_eq_true g4, decide_eq_true g]; rfl
        have e2 : op (ct l s.o s.f) (k + 1) = op (ct l s.o s.f) k ++ [k] := by rw [op_succ, if_pos hct]
        have hlen := op_le (ct l s.o s.f) k
        intro _; refine ⟨rfl, ?_⟩
        intro _; refine ⟨fun g3 => by simp at g3, fun _ => ?_⟩
        refine ⟨⟨(CI_len _).symm, show (op (ct l s.o s.f) k).length + 1 ≤ 4611686018427387904 by omega, show ((op (ct l s.o s.f) k).length + 1) * 8 ≤ 70368744177664 by omega⟩, ?_⟩
        refine ⟨⟨k + 1, by omega⟩, by simp; omega, th [(8, some 11)] 9, rfl, rfl, rfl, rfl, rfl, rfl, ?_, ?_⟩
        · (repeat' first | exact trivial | exact rfl | refine And.intro ?_ ?_)
          · exact ek
          · show (op (ct l s.o s.f) (k + 1)).length = (op (ct l s.o s.f) k).length + 1
            rw [e2, List.length_append]; rfl
        · (repeat' first | exact trivial | exact rfl | refine And.intro ?_ ?_)
          · exact stepP
          · exact eB.symm
          · exact eE.symm
          · show CI (op (ct l s.o s.f) (k + 1)) = CI (op (ct l s.o s.f) k) ++ [(k : Int)]
            rw [e2]; simp [CI]
      · have g : decide (IntKind.i64.wrap (ba l (0 + k) + ((tab l.length (qk l s q k)).set (k : Int).toNat (IntKind.i64.wrap (IntKind.i64.wrap ((IntKind.i64.wrap (s.f * IntKind.i64.wrap (pre l s.o k + gr l (0 + k)))).tdiv (al l s.o)) - (s.f * pre l s.o k).tdiv (al l s.o)))).getD (k : Int).toNat 0) > mx l (0 + k)) = false := g
        rw [eS, z] at g
        have hct : ct l s.o s.f k = false := by unfold ct; rw [ho, g]; simp
        refine ⟨⟨k + 1, by omega⟩, by simp; omega, th [] 9, rfl, rfl, rfl, rfl, rfl, rfl, ?_, ?_⟩
        · (repeat' first | exact trivial | exact rfl | refine And.intro ?_ ?_)
          · exact ek
          · exact congrArg List.length (noCut hct)
        · (repeat' first | exact trivial | exact rfl | refine And.intro ?_ ?_)
          · exact stepP
          · exact eB.symm
          · exact eE.symm
          · exact congrArg CI (noCut hct)
    have hkl := of_decide_eq_false (show decide ((k : Int) < (l.length : Int)) = false from g)
    have hkl : k = l.length := by omega
    subst hkl
    have hcm : ∀ i, i ∈ op (ct l s.o s.f) l.length → i < l.length ∧ 0 ≤ mx l i - ba l i ∧ mx l i - ba l i ≤ 1000000 := fun i hi => by
      rw [mem_op] at hi
      obtain ⟨_, c1, c2⟩ := ct_open hi.2
      have h1 := (hv.2 i hi.1).2.2 c1
      have h2 := (hv.2 i hi.1).1
      exact ⟨hi.1, by omega, by omega⟩
    have hcl : (op (ct l s.o s.f) l.length).length ≤ l.length := op_le _ _
    have hsu := su_cs l s.o s.f l.length
    intro _
    refine loop2 tt_ok [65, 2] [1, 3] 9 (fun j : Fin ((op (ct l s.o s.f) l.length).length + 1) => [(65, .int .i64 (j : Nat)), (2, .int .i64 (s.f - su l ((op (ct l s.o s.f) l.length).take j)))]) (fun j => [(1, .map .i64 [.bool] false (em (op (oc s.o ((op (ct l s.o s.f) l.length).take j)) l.length))), (3, .arr [.int .i64] .own (.ints (tab l.length (qc l ((op (ct l s.o s.f) l.length).take j) (qk l s q l.length)))))]) (fun j => (op (ct l s.o s.f) l.length).length - j) ⟨0, by omega⟩ ?_
    intro _
    refine ⟨⟨th [] 9, rfl, rfl, rfl, rfl, rfl, rfl, ?_, ?_⟩, ?_⟩
    · (repeat' first | exact trivial | exact rfl | refine And.intro ?_ ?_)
      show s.f - 0 = s.f
      omega
    · (repeat' first | exact trivial | exact rfl | refine And.intro ?_ ?_)
      · show em (op (oc s.o []) l.length) = em (op s.o l.length)
        have : oc s.o [] = s.o := by funext i; simp [oc]
        rw [this]
    intro ⟨j, hj⟩
    intro _; refine ⟨fun g => ?_, fun g => ?_⟩
    · have hjl := of_decide_eq_true (show decide ((j : Int) < ((op (ct l s.o s.f) l.length).length : Int)) = true from g)
      have hjn : j < (op (ct l s.o s.f) l.length).length := by omega
      obtain ⟨cc, ecc⟩ : ∃ cc, cc = op (ct l s.o s.f) l.length := ⟨_, rfl⟩
      obtain ⟨x, ex⟩ : ∃ x, x = (op (ct l s.o s.f) l.length).getD j 0 := ⟨_, rfl⟩
      have hxm : x ∈ op (ct l s.o s.f) l.length := by rw [ex]; exact getD_mem hjn
      obtain ⟨hx, hx0, hx1⟩ := hcm x hxm
      have eC : (CI (op (ct l s.o s.f) l.length)).getD (j : Int).toNat 0 = (x : Int) := by
        rw [ex]; exact CI_get _ hjn
      have eCt : ((CI (op (ct l s.o s.f) l.length)).getD (j : Int).toNat 0).toNat = x := by rw [eC]; omega
      have hst := su_take (l := l) hjn
      rw [← ex] at hst
      have hb1 := su_bd (l := l) (c := (op (ct l s.o s.f) l.length).take j) (fun i hi => (hcm i (List.mem_of_mem_take hi)).2)
      have hlt : ((op (ct l s.o s.f) l.length).take j).length ≤ j := by rw [List.length_take]; omega
      intro _; refine ⟨show 0 ≤ (j : Int) ∧ (j : Int) < ((op (ct l s.o s.f) l.length).length : Int) by omega, ?_⟩
      intro _; refine ⟨show (j : Int).toNat < List.length (CI (op (ct l s.o s.f) l.length)) by rw [CI_len]; omega, ?_⟩
      intro _; refine ⟨show 0 ≤ (CI (op (ct l s.o s.f) l.length)).getD (j : Int).toNat 0 ∧ (CI (op (ct l s.o s.f) l.length)).getD (j : Int).toNat 0 < (l.length : Int) by rw [eC]; omega, ?_⟩
      intro _; refine ⟨show 0 + ((CI (op (ct l s.o s.f) l.length)).getD (j : Int).toNat 0).toNat < l.length by rw [eCt]; omega, ?_⟩
      intro _; refine ⟨show 0 ≤ (CI (op (ct l s.o s.f) l.length)).getD (j : Int).toNat 0 ∧ (CI (op (ct l s.o s.f) l.length)).getD (j : Int).toNat 0 < (l.length : Int) by rw [eC]; omega, ?_⟩
      intro _; refine ⟨show 0 + ((CI (op (ct l s.o s.f) l.length)).getD (j : Int).toNat 0).toNat < l.length by rw [eCt]; omega, ?_⟩
      intro _; refine ⟨show 0 ≤ (CI (op (ct l s.o s.f) l.length)).getD (j : Int).toNat 0 ∧ (CI (op (ct l s.o s.f) l.length)).getD (j : Int).toNat 0 < ((l.length : Int).toNat : Int) by rw [eC]; omega, ?_⟩
      intro _; refine ⟨show ((CI (op (ct l s.o s.f) l.length)).getD (j : Int).toNat 0).toNat < List.length (tab l.length _) by rw [eCt, tab_len]; omega, ?_⟩
      intro _; refine ⟨by kernel_rfl, ?_⟩
      intro _; refine ⟨show 0 ≤ (CI (op (ct l s.o s.f) l.length)).getD (j : Int).toNat 0 ∧ (CI (op (ct l s.o s.f) l.length)).getD (j : Int).toNat 0 < ((l.length : Int).toNat : Int) by rw [eC]; omega, ?_⟩
      intro _; refine ⟨show ((CI (op (ct l s.o s.f) l.length)).getD (j : Int).toNat 0).toNat < List.length ((tab l.length _).set _ _) by rw [List.length_set, eCt, tab_len]; omega, ?_⟩
      have eV : IntKind.i64.wrap (mx l (0 + ((CI (op (ct l s.o s.f) l.length)).getD (j : Int).toNat 0).toNat) - ba l (0 + ((CI (op (ct l s.o s.f) l.length)).getD (j : Int).toNat 0).toNat)) = mx l x - ba l x := by
        rw [eCt, Nat.zero_add]; exact wrapS _ ⟨by omega, by omega⟩
      refine ⟨⟨j + 1, by omega⟩, by simp; omega, th [] 9, rfl, rfl, rfl, rfl, rfl, rfl, ?_, ?_⟩
      · (repeat' first | exact trivial | exact rfl | refine And.intro ?_ ?_)
        · exact (wrap_nat j (by omega)).symm
        · show s.f - su l ((op (ct l s.o s.f) l.length).take (j + 1)) = IntKind.i64.wrap (s.f - su l ((op (ct l s.o s.f) l.length).take j) - ((tab l.length (qc l ((op (ct l s.o s.f) l.length).take j) (qk l s q l.length))).set ((CI (op (ct l s.o s.f) l.length)).getD (j : Int).toNat 0).toNat (IntKind.i64.wrap (mx l (0 + ((CI (op (ct l s.o s.f) l.length)).getD (j : Int).toNat 0).toNat) - ba l (0 + ((CI (op (ct l s.o s.f) l.length)).getD (j : Int).toNat 0).toNat)))).getD ((CI (op (ct l s.o s.f) l.length)).getD (j : Int).toNat 0).toNat 0)
          rw [eV, eCt, tab_cell _ hx, hst, wrapS _ ⟨by omega, by omega⟩]
          omega
      · (repeat' first | exact trivial | exact rfl | refine And.intro ?_ ?_)
        · show em (op (oc s.o ((op (ct l s.o s.f) l.length).take (j + 1))) l.length) = mdel (em (op (oc s.o ((op (ct l s.o s.f) l.length).take j)) l.length)) ((CI (op (ct l s.o s.f) l.length)).getD (j : Int).toNat 0)
          rw [eC, em_del _ _ (op_nodup _ _)]
          congr 1
          unfold op
          rw [List.filter_filter]
          refine List.filter_congr (fun i _ => ?_)
          have := mem_take_succ (i := i) hjn
          rw [← ex] at this
          unfold oc op at *
          by_cases e1 : i = x
          · have e2 := this.2 (.inr e1)
            rw [decide_eq_true e1, decide_eq_true e2]; simp
          · by_cases e2 : i ∈ List.take j (List.filter (ct l s.o s.f) (List.range l.length))
            · rw [decide_eq_true (this.2 (.inl e2)), decide_eq_true e2]; simp
            · rw [decide_eq_false (fun h => (this.1 h).elim e2 e1), decide_eq_false e2, decide_eq_false e1]; simp
        · show tab l.length (qc l ((op (ct l s.o s.f) l.length).take (j + 1)) (qk l s q l.length)) = (tab l.length (qc l ((op (ct l s.o s.f) l.length).take j) (qk l s q l.length))).set ((CI (op (ct l s.o s.f) l.length)).getD (j : Int).toNat 0).toNat (IntKind.i64.wrap (mx l (0 + ((CI (op (ct l s.o s.f) l.length)).getD (j : Int).toNat 0).toNat) - ba l (0 + ((CI (op (ct l s.o s.f) l.length)).getD (j : Int).toNat 0).toNat)))
          rw [eV, eCt, tab_set]
          refine tab_ext (fun i _ => ?_)
          have := mem_take_succ (i := i) hjn
          rw [← ex] at this
          unfold qc
          by_cases e1 : i = x
          · subst e1; rw [if_pos (this.2 (.inr rfl)), if_pos rfl]
          · by_cases e2 : i ∈ (op (ct l s.o s.f) l.length).take j
            · rw [if_pos (this.2 (.inl e2)), if_neg e1, if_pos e2]
            · rw [if_neg (fun h => (this.1 h).elim e2 e1), if_neg e1, if_neg e2]
    have hjl := of_decide_eq_false (show decide ((j : Int) < ((op (ct l s.o s.f) l.length).length : Int)) = false from g)
    have hjn : j = (op (ct l s.o s.f) l.length).length := by omega
    subst hjn
    have eT : (op (ct l s.o s.f) l.length).take (op (ct l s.o s.f) l.length).length = op (ct l s.o s.f) l.length := List.take_length
    intro _; refine ⟨fun g => ?_, fun g => ?_⟩
    · have g : (((op (ct l s.o s.f) l.length).length : Int) == 0) = true := g
      have g0 : (op (ct l s.o s.f) l.length).length = 0 := by have : ((op (ct l s.o s.f) l.length).length : Int) = 0 := by simpa using g
                                                              omega
      have hnc : op (ct l s.o s.f) l.length = [] := List.length_eq_zero_iff.1 g0
      refine Or.inl ⟨⟨lastP l s, fun i hi => ?_⟩, rfl, th [] 4, rfl, rfl, rfl, rfl, rfl, rfl, ?_, ?_⟩
      · rw [← hT i hi, fin_last hne hc hnc]
      · (repeat' first | exact trivial | exact rfl | refine And.intro ?_ ?_)
      · (repeat' first | exact trivial | exact rfl | refine And.intro ?_ ?_)
        show tab l.length (lastP l s) = tab l.length (qc l ((op (ct l s.o s.f) l.length).take (op (ct l s.o s.f) l.length).length) (qk l s q l.length))
        rw [eT, hnc]
        refine tab_ext (fun i hi => ?_)
        unfold lastP qc qk
        by_cases e : s.o i = true
        · rw [if_pos e, if_neg List.not_mem_nil, if_pos ⟨hi, e⟩]
        · rw [if_neg e, if_neg List.not_mem_nil, if_neg (fun h => e h.2)]; exact (hq i hi (by simpa using e)).symm
    · have g : (((op (ct l s.o s.f) l.length).length : Int) == 0) = false := g
      have hnc : op (ct l s.o s.f) l.length ≠ [] := fun e => by rw [e] at g; simp at g
      obtain ⟨k', h1, h2, h3⟩ := fin_next hne hc hnc
      have eo : oc s.o (op (ct l s.o s.f) l.length) = fun i => s.o i && !decide (i ∈ op (ct l s.o s.f) l.length) := rfl
      have emem : ∀ i, i < l.length → decide (i ∈ op (ct l s.o s.f) l.length) = ct l s.o s.f i := fun i hi => by
        by_cases e : ct l s.o s.f i = true
        · rw [e]; exact decide_eq_true (mem_op.2 ⟨hi, e⟩)
        · rw [decide_eq_false (fun h => e (mem_op.1 h).2)]; simpa using e
      refine ⟨⟨(step l s, k', qc l (op (ct l s.o s.f) l.length) (qk l s q l.length)), hI.step hp, h3, fun i hi => by rw [← h2]; exact hT i hi, fun i hi ho => ?_⟩, h1, th [] 4, rfl, rfl, rfl, rfl, rfl, rfl, ?_, ?_⟩
      · have ho : (s.o i && !ct l s.o s.f i) = false := ho
        show qc l (op (ct l s.o s.f) l.length) (qk l s q l.length) i = (if ct l s.o s.f i = true then mx l i - ba l i else s.p i)
        unfold qc qk
        by_cases e : ct l s.o s.f i = true
        · rw [if_pos (mem_op.2 ⟨hi, e⟩), if_pos e]
        · rw [if_neg (fun h => e (mem_op.1 h).2), if_neg e]
          have e2 : ct l s.o s.f i = false := by simpa using e
          rw [e2] at ho
          have e3 : s.o i = false := by simpa using ho
          rw [if_neg (by rw [e3]; simp)]
          exact hq i hi e3
      · (repeat' first | exact trivial | exact rfl | refine And.intro ?_ ?_)
        show s.f - cs l s.o s.f l.length = s.f - su l ((op (ct l s.o s.f) l.length).take (op (ct l s.o s.f) l.length).length)
        rw [eT, hsu]
      · (repeat' first | exact trivial | exact rfl | refine And.intro ?_ ?_)
        · show em (op (step l s).o l.length) = em (op (oc s.o ((op (ct l s.o s.f) l.length).take (op (ct l s.o s.f) l.length).length)) l.length)
          rw [eT]
          congr 1
          unfold op
          refine List.filter_congr (fun i hi => ?_)
          have hi := List.mem_range.1 hi
          show (s.o i && !ct l s.o s.f i) = (s.o i && !decide (i ∈ op (ct l s.o s.f) l.length))
          rw [emem i hi]
        · show tab l.length _ = tab l.length (qc l ((op (ct l s.o s.f) l.length).take (op (ct l s.o s.f) l.length).length) (qk l s q l.length))
          rw [eT]
  -- the widths
  have hTb : ∀ i, i < l.length → 0 ≤ TT l (F0 l sp gp) i ∧ TT l (F0 l sp gp) i ≤ 1000000 := fun i hi => fin_bd l.length _ (inv0 hv hF0.1 hF0.2) i hi
  intro _
  intro _
  refine loop2 tt_ok [67] [2] 4 (fun k : Fin (l.length + 1) => [(67, .int .i64 (k : Nat))]) (fun k => [(2, .arr [.int .i64] .own (.ints (tab l.length (fun i => if i < (k : Nat) then ba l i + TT l (F0 l sp gp) i else ba l i))))]) (fun k => l.length - k) ⟨0, by omega⟩ ?_
  intro _
  refine ⟨⟨th [] 4, rfl, rfl, rfl, rfl, rfl, rfl, ?_, ?_⟩, ?_⟩
  · (repeat' first | exact trivial | exact rfl | refine And.intro ?_ ?_)
  · (repeat' first | exact trivial | exact rfl | refine And.intro ?_ ?_)
    show tab l.length (fun i => if i < 0 then ba l i + TT l (F0 l sp gp) i else ba l i) = tab l.length (fun i => if i < l.length then ba l i else 0)
    exact tab_ext (fun i hi => by rw [if_neg (by omega), if_pos hi])
  intro ⟨k, hk⟩
  intro _; refine ⟨fun g => ?_, fun g => ?_⟩
  · have hkl := of_decide_eq_true (show decide ((k : Int) < ((l.length : Int).toNat : Int)) = true from g)
    have hkn : k < l.length := by omega
    have ik : 0 ≤ (k : Int) ∧ (k : Int) < ((l.length : Int).toNat : Int) := by omega
    have hb := (hv.2 k hkn).1
    have ht := hTb k hkn
    have hqk := hq k hkn
    intro _; refine ⟨ik, ?_⟩
    intro _; refine ⟨show (k : Int).toNat < List.length (tab l.length _) by rw [tab_len]; omega, ?_⟩
    intro _; refine ⟨ik, ?_⟩
    intro _; refine ⟨show (k : Int).toNat < List.length (tab l.length _) by rw [tab_len]; omega, ?_⟩
    intro _; refine ⟨ik, ?_⟩
    intro _; refine ⟨show (k : Int).toNat < List.length (tab l.length _) by rw [tab_len]; omega, ?_⟩
    refine ⟨⟨k + 1, by omega⟩, by simp; omega, th [] 4, rfl, rfl, rfl, rfl, rfl, rfl, ?_, ?_⟩
    · (repeat' first | exact trivial | exact rfl | refine And.intro ?_ ?_)
      exact (wrap_nat k (by omega)).symm
    · (repeat' first | exact trivial | exact rfl | refine And.intro ?_ ?_)
      show tab l.length (fun i => if i < k + 1 then ba l i + TT l (F0 l sp gp) i else ba l i) = (tab l.length (fun i => if i < k then ba l i + TT l (F0 l sp gp) i else ba l i)).set k (IntKind.i64.wrap ((tab l.length (fun i => if i < k then ba l i + TT l (F0 l sp gp) i else ba l i)).getD k 0 + (tab l.length q).getD k 0))
      rw [tab_get _ hkn, tab_get _ hkn, if_neg (by omega), hqk, wrapS _ ⟨by omega, by omega⟩, tab_set]
      refine tab_ext (fun i _ => ?_)
      by_cases e : i = k
      · subst e; rw [if_pos (by omega), if_pos rfl]
      · rw [if_neg e]
        by_cases e2 : i < k
        · rw [if_pos e2, if_pos (by omega)]
        · rw [if_neg e2, if_neg (by omega)]
  · have hkl := of_decide_eq_false (show decide ((k : Int) < ((l.length : Int).toNat : Int)) = false from g)
    have hkl : k = l.length := by omega
    subst hkl
    intro _
    refine ⟨[(1, some 2)], .tup [.grw 1 (sh l sp gp).1.length, .int .i64 (sh l sp gp).2], ⟨2, 1, [(1, .arr [.int .i64] .own (.ints (sh l sp gp).1))]⟩, rfl, rfl, rfl, rfl, ?_, ?_, ⟨rfl, rfl⟩⟩
    · rw [e1]
      (repeat' first | exact trivial | exact rfl | refine And.intro ?_ ?_)
      show List.length (tab l.length _) = (l.length : Int).toNat
      rw [tab_len]; omega
    · rw [e1]
      (repeat' first | exact trivial | exact rfl | refine And.intro ?_ ?_)
      exact tab_ext (fun i hi => (if_pos hi).symm)
theorem rtab_set {n : Nat} (f : Nat → List D) (k : Nat) (v : List D) : (rtab n f).set k v = rtab n (fun i => if i = k then v else f i) := by
  unfold rtab
  refine List.ext_getElem (by simp) (fun i h1 h2 => ?_)
  rw [List.getElem_set]
  simp only [List.getElem_map, List.getElem_range]
  by_cases e : k = i
  · rw [if_pos e, if_pos e.symm]
  · rw [if_neg e, if_neg (fun h => e h.symm)]
theorem rtab_rep (n : Nat) (d : List D) : List.replicate n d = rtab n (fun _ => d) := by
  unfold rtab
  refine List.ext_getElem (by simp) (fun i h1 h2 => ?_)
  simp
theorem rtab_ext {n : Nat} {f g : Nat → List D} (h : ∀ i, i < n → f i = g i) : rtab n f = rtab n g := by
  unfold rtab; exact List.map_congr_left (fun i hi => h i (List.mem_range.1 hi))
def colsL (C : Int) : Rows := rtab C.toNat (fun _ => [D.n 0, D.n 1, D.n 0])
theorem cols_len (C : Int) : List.length (colsL C) = C.toNat := rtab_len _ _
theorem cols_get {C : Int} {i : Nat} (h : i < C.toNat) : (colsL C).getD i [] = [D.n 0, D.n 1, D.n 0] := rtab_get _ h
theorem cols_vd {C : Int} (h : 1 ≤ C ∧ C ≤ 64) : Vd (colsL C) := by
  refine ⟨by rw [cols_len]; omega, fun i hi => ?_⟩
  rw [cols_len] at hi
  unfold Tk ba gr mx
  rw [cols_get hi]
  refine ⟨?_, ?_, fun h => ?_⟩
  · show (0 : Int) ≤ 0 ∧ (0 : Int) ≤ 1000000; omega
  · show (0 : Int) ≤ 1 ∧ (1 : Int) ≤ 1000; omega
  · exact absurd (show (0 : Int) = 0 from rfl) h
def Wl (C s gp : Int) : List Int := (sh (colsL C) s gp).1
theorem Wl_eq {C s gp : Int} (h : ShOk (colsL C) s gp) : sh (colsL C) s gp = (tab (colsL C).length (fun i => ba (colsL C) i + TT (colsL C) (F0 (colsL C) s gp) i), 0) := by unfold sh; rw [if_pos h]
theorem F0_nn (l : Rows) (s gp : Int) : 0 ≤ F0 l s gp := by unfold F0; omega
theorem F0_le {l : Rows} {s gp : Int} (h : ShOk l s gp) : F0 l s gp ≤ 1000000 := by
  have b := bs_bd h.1 l.length (by omega)
  have h1 := h.1.1
  have : 0 ≤ gp * ((l.length : Int) - 1) := Int.mul_nonneg h.2.2.1 (by omega)
  unfold F0; have := h.2.1; omega
theorem Wl_len {C s gp : Int} (h : ShOk (colsL C) s gp) : (Wl C s gp).length = C.toNat := by unfold Wl; rw [Wl_eq h]; show (tab _ _).length = _; rw [tab_len, cols_len]
theorem Wl_get {C s gp : Int} (h : ShOk (colsL C) s gp) {i : Nat} (hi : i < C.toNat) : (Wl C s gp).getD i 0 = TT (colsL C) (F0 (colsL C) s gp) i ∧ Wd (Wl C s gp) i := by
  have e : (Wl C s gp).getD i 0 = TT (colsL C) (F0 (colsL C) s gp) i := by
    unfold Wl; rw [Wl_eq h]
    show (tab _ _).getD i 0 = _
    rw [tab_get _ (by rw [cols_len]; exact hi)]
    unfold ba; rw [cols_get hi]
    show (0 : Int) + _ = _
    omega
  refine ⟨e, ?_⟩
  unfold Wd; rw [e]
  exact fin_bd _ _ (inv0 h.1 (F0_nn _ _ _) (F0_le h)) i (by rw [cols_len]; exact hi)
theorem Wl_ok {C s gp : Int} (h : ShOk (colsL C) s gp) : SOk (Wl C s gp) gp := by
  have h1 := h.1.1
  rw [cols_len] at h1
  refine ⟨by rw [Wl_len h]; exact h1, h.2.2, fun i hi => (Wl_get h (by rw [Wl_len h] at hi; exact hi)).2⟩
def abx (C : Int) (S W : List Int) (gp : Int) (i : Nat) : List D := [D.n 0, D.n (sp W gp (cel C S i).2.toNat), D.n 0, D.n (sp W gp ((cel C S i).2 + min (at' S i) C - 1).toNat + at' W ((cel C S i).2 + min (at' S i) C - 1).toNat - sp W gp (cel C S i).2.toNat), D.n 0, D.b false, D.n 0]
def ac (C : Int) (S : List Int) (s gp : Int) : Rows × Int := if (cl C S).2 ≠ 0 then ([], (cl C S).2) else if ShOk (colsL C) s gp then (rtab S.length (abx C S (Wl C s gp) gp), 0) else ([], 1)
def AQ (C : Int) (S : List Int) (s gp : Int) : V → H → Prop := fun v h' => v = .tup [.grw 1 (ac C S s gp).1.length, .int .i64 (ac C S s gp).2] ∧ h' = ⟨2, 1, [(1, .arr [.int .i64, .int .i64, .int .i64, .int .i64, .int .i64, .bool, .nils] .grow (.recs (ac C S s gp).1))]⟩
set_option maxHeartbeats 4000000 in
theorem across_ok (C : Int) (S : List Int) (s gp : Int) (hl : S.length ≤ 9223372036854775807) : SemF Try.prog 49 [.int .i64 C, .slc 0 1 0 S.length, .int .i64 s, .int .i64 gp] ⟨1, 1, [(0, .arr [.int .i64] .rd (.ints S))]⟩ (AQ C S s gp) := by
  refine SemF.ret ?_
  refine enter tt_ok Try.func49 (nt := 99) (cd := body Try.f49) rfl rfl rfl rfl ?_
  have bad : ∀ e : Int, ac C S s gp = ([], e) → ∀ nx hx, Nat.ble 1 nx = true → Ret 1 (AQ C S s gp) (.tup [.nils, .int .i64 e]) ⟨nx, 1, hx⟩ := fun e e1 nx hx hn => by
    refine ⟨[(1, none)], .tup [.grw 1 0, .int .i64 e], ⟨2, 1, [(1, .arr [.int .i64, .int .i64, .int .i64, .int .i64, .int .i64, .bool, .nils] .grow (.recs []))]⟩, rfl, rfl, rfl, rfl, ?_, ?_, ?_, ?_⟩
    · (repeat' first | exact trivial | exact rfl | refine And.intro ?_ ?_)
    · (repeat' first | exact trivial | exact rfl | refine And.intro ?_ ?_)
    · rw [e1]; rfl
    · rw [e1]
  intro _
  refine call_new [(0, some 0)] (cells_ok C S hl) rfl rfl rfl rfl ?_ ?_ ?_
  · (repeat' first | exact trivial | exact rfl | refine And.intro ?_ ?_)
  · (repeat' first | exact trivial | exact rfl | refine And.intro ?_ ?_)
  intro v h' hv
  obtain ⟨rfl, rfl⟩ := hv
  refine ⟨[(1, some 1)], 2, [(1, .arr [.int .i64, .int .i64] .grow (.recs (cl C S).1))], .tup [.grw 1 (cl C S).1.length, .int .i64 (cl C S).2], rfl, rfl, rfl, rfl, rfl, ?_, ?_, ?_⟩
  · (repeat' first | exact trivial | exact rfl | refine And.intro ?_ ?_)
  · (repeat' first | exact trivial | exact rfl | refine And.intro ?_ ?_)
  intro _; refine ⟨fun g => ?_, fun g => ?_⟩
  · have g : ((cl C S).2 != 0) = true := g
    have g : (cl C S).2 ≠ 0 := by simpa using g
    intro _
    exact bad _ (by unfold ac; rw [if_pos g]) _ _ rfl
  have g : ((cl C S).2 != 0) = false := g
  have g0 : (cl C S).2 = 0 := by simpa using g
  have hU := cl_zero g0
  have e1 := cl_ok hU
  have eL : List.length (cl C S).1 = S.length := by rw [e1]; exact rtab_len _ _
  have hC := hU.2.1
  intro _; refine ⟨⟨by omega, by omega, by omega⟩, ?_⟩
  intro _
  refine loop2 tt_ok [35] [2] 3 (fun k : Fin (C.toNat + 1) => [(35, .int .i64 (k : Nat))]) (fun k => [(2, .arr [.int .i64, .int .i64, .int .i64] .own (.recs (rtab C.toNat (fun i => if i < (k : Nat) then [D.n 0, D.n 1, D.n 0] else [D.n 0, D.n 0, D.n 0]))))]) (fun k => C.toNat - k) ⟨0, by omega⟩ ?_
  intro _
  refine ⟨⟨th [] 3, rfl, rfl, rfl, rfl, rfl, rfl, ?_, ?_⟩, ?_⟩
  · (repeat' first | exact trivial | exact rfl | refine And.intro ?_ ?_)
  · (repeat' first | exact trivial | exact rfl | refine And.intro ?_ ?_)
    show rtab C.toNat _ = List.replicate C.toNat [D.n 0, D.n 0, D.n 0]
    rw [rtab_rep]
    exact rtab_ext (fun i _ => if_neg (by simp))
  intro ⟨k, hk⟩
  have z : 0 + k = k := Nat.zero_add k
  intro _; refine ⟨fun g => ?_, fun g => ?_⟩
  · have hkl := of_decide_eq_true (show decide ((k : Int) < (C.toNat : Int)) = true from g)
    intro _; refine ⟨show 0 ≤ (k : Int) ∧ (k : Int) < (C.toNat : Int) by omega, ?_⟩
    intro _; refine ⟨show (k : Int).toNat < List.length (rtab C.toNat _) by rw [rtab_len]; omega, ?_⟩
    refine ⟨⟨k + 1, by omega⟩, by simp; omega, th [] 3, rfl, rfl, rfl, rfl, rfl, rfl, ?_, ?_⟩
    · (repeat' first | exact trivial | exact rfl | refine And.intro ?_ ?_)
      exact (wrap_nat k (by omega)).symm
    · (repeat' first | exact trivial | exact rfl | refine And.intro ?_ ?_)
      show rtab C.toNat (fun i => if i < k + 1 then [D.n 0, D.n 1, D.n 0] else [D.n 0, D.n 0, D.n 0]) = (rtab C.toNat (fun i => if i < k then [D.n 0, D.n 1, D.n 0] else [D.n 0, D.n 0, D.n 0])).set k [((rtab C.toNat (fun i => if i < k then [D.n 0, D.n 1, D.n 0] else [D.n 0, D.n 0, D.n 0])).getD k []).getD 0 (D.n 0), D.n 1, ((rtab C.toNat (fun i => if i < k then [D.n 0, D.n 1, D.n 0] else [D.n 0, D.n 0, D.n 0])).getD k []).getD 2 (D.n 0)]
      rw [rtab_get _ (by omega), if_neg (by omega), rtab_set]
      refine rtab_ext (fun i _ => ?_)
      by_cases e : i = k
      · subst e; rw [if_pos (by omega), if_pos rfl]; rfl
      · rw [if_neg e]
        by_cases e2 : i < k
        · rw [if_pos e2, if_pos (by omega)]
        · rw [if_neg e2, if_neg (by omega)]
  have hkl := of_decide_eq_false (show decide ((k : Int) < (C.toNat : Int)) = false from g)
  have hkl : k = C.toNat := by omega
  subst hkl
  have eT : rtab C.toNat (fun i => if i < C.toNat then [D.n 0, D.n 1, D.n 0] else [D.n 0, D.n 0, D.n 0]) = colsL C := rtab_ext (fun i hi => if_pos hi)
  intro _
  refine call_new [(0, some 2)] (share_ok (colsL C) s gp (by rw [cols_len]; omega)) rfl rfl rfl rfl ?_ ?_ ?_
  · (repeat' first | exact trivial | exact rfl | refine And.intro ?_ ?_)
    exact eT.symm
  · (repeat' first | exact trivial | exact rfl | refine And.intro ?_ ?_)
    exact cols_len C
  intro v h' hv
  obtain ⟨rfl, rfl⟩ := hv
  refine ⟨[(3, some 1)], 4, [(3, .arr [.int .i64] .own (.ints (sh (colsL C) s gp).1))], .tup [.grw 3 (sh (colsL C) s gp).1.length, .int .i64 (sh (colsL C) s gp).2], rfl, rfl, rfl, rfl, rfl, ?_, ?_, ?_⟩
  · (repeat' first | exact trivial | exact rfl | refine And.intro ?_ ?_)
  · (repeat' first | exact trivial | exact rfl | refine And.intro ?_ ?_)
  by_cases hS : ShOk (colsL C) s gp
  rotate_left
  · have e2 : sh (colsL C) s gp = ([], 1) := by unfold sh; rw [if_neg hS]
    intro _; refine ⟨fun _ => ?_, fun g => ?_⟩
    · intro _
      rw [e2]
      exact bad 1 (by unfold ac; rw [if_neg (fun h => h g0), if_neg hS]) _ _ rfl
    · exfalso
      have g : ((sh (colsL C) s gp).2 != 0) = false := g
      rw [e2] at g; simp at g
  have e2 := Wl_eq hS
  intro _; refine ⟨fun g => ?_, fun _ => ?_⟩
  · exfalso
    have g : ((sh (colsL C) s gp).2 != 0) = true := g
    rw [e2] at g; simp at g
  have hW := Wl_ok hS
  have wL := Wl_len hS
  intro _
  refine call_new [(0, some 3)] (starts_ok (Wl C s gp) gp (by rw [wL]; omega)) rfl rfl rfl rfl ?_ ?_ ?_
  · (repeat' first | exact trivial | exact rfl | refine And.intro ?_ ?_)
  · (repeat' first | exact trivial | exact rfl | refine And.intro ?_ ?_)
  intro v h' hv
  obtain ⟨rfl, rfl⟩ := hv
  refine ⟨[(4, some 1)], 5, [(4, .arr [.int .i64] .own (.ints (sr (Wl C s gp) gp).1))], .tup [.grw 4 (sr (Wl C s gp) gp).1.length, .int .i64 (sr (Wl C s gp) gp).2], rfl, rfl, rfl, rfl, rfl, ?_, ?_, ?_⟩
  · (repeat' first | exact trivial | exact rfl | refine And.intro ?_ ?_)
  · (repeat' first | exact trivial | exact rfl | refine And.intro ?_ ?_)
  have e3 : sr (Wl C s gp) gp = (tab (Wl C s gp).length (sp (Wl C s gp) gp), 0) := by unfold sr; rw [if_pos hW]
  have sL : List.length (sr (Wl C s gp) gp).1 = C.toNat := by rw [e3]; show (tab _ _).length = _; rw [tab_len, wL]
  intro _
  refine loop2 tt_ok [61, 17] [5] 6 (fun k : Fin (S.length + 1) => [(61, .int .i64 (k : Nat)), (17, .grw 5 (k : Nat))]) (fun k => [(5, .arr [.int .i64, .int .i64, .int .i64, .int .i64, .int .i64, .bool, .nils] .grow (.recs (rtab (k : Nat) (abx C S (Wl C s gp) gp))))]) (fun k => S.length - k) ⟨0, by omega⟩ ?_
  intro _
  refine ⟨⟨th [(5, none)] 6, rfl, rfl, rfl, rfl, rfl, rfl, ?_, ?_⟩, ?_⟩
  · (repeat' first | exact trivial | exact rfl | refine And.intro ?_ ?_)
  · (repeat' first | exact trivial | exact rfl | refine And.intro ?_ ?_)
  intro ⟨k, hk⟩
  have z : 0 + k = k := Nat.zero_add k
  intro _; refine ⟨fun g => ?_, fun g => ?_⟩
  · have g : decide ((k : Int) < ((cl C S).1.length : Int)) = true := g
    rw [eL] at g
    have hkl := of_decide_eq_true g
    have hkn : k < S.length := by omega
    intro _; refine ⟨show 0 ≤ (k : Int) ∧ (k : Int) < ((cl C S).1.length : Int) by rw [eL]; omega, ?_⟩
    intro _; refine ⟨show (k : Int).toNat < List.length (cl C S).1 by rw [eL]; omega, ?_⟩
    intro _; refine ⟨show 0 ≤ (k : Int) ∧ (k : Int) < (S.length : Int) by omega, ?_⟩
    intro _; refine ⟨show 0 + (k : Int).toNat < S.length by omega, ?_⟩
    intro _; refine ⟨by kernel_rfl, ?_⟩
    have er : (cl C S).1.getD k [] = crow C S k := by rw [e1]; exact rtab_get _ hkn
    have eC : (((cl C S).1.getD k []).getD 1 (D.n 0)).int = (cel C S k).2 := by rw [er]; rfl
    have hsk := hU.2.2 k hkn
    have h4 := hU.1
    have cb := cel_bd hC (k := k) (fun i hi => hU.2.2 i (by omega))
    have eQ : IntKind.i64.wrap (IntKind.i64.wrap ((((cl C S).1.getD k []).getD 1 (D.n 0)).int + min (at' S (0 + k)) C) - 1) = (cel C S k).2 + min (at' S k) C - 1 := by
      rw [eC, z, wrapS ((cel C S k).2 + min (at' S k) C) ⟨by omega, by omega⟩, wrapS _ ⟨by omega, by omega⟩]
    intro _; refine ⟨show 0 ≤ (((cl C S).1.getD k []).getD 1 (D.n 0)).int ∧ (((cl C S).1.getD k []).getD 1 (D.n 0)).int < ((sr (Wl C s gp) gp).1.length : Int) by rw [eC, sL]; omega, ?_⟩
    intro _; refine ⟨show (((cl C S).1.getD k []).getD 1 (D.n 0)).int.toNat < List.length (sr (Wl C s gp) gp).1 by rw [eC, sL]; omega, ?_⟩
    intro _; refine ⟨show 0 ≤ IntKind.i64.wrap (IntKind.i64.wrap ((((cl C S).1.getD k []).getD 1 (D.n 0)).int + min (at' S (0 + k)) C) - 1) ∧ IntKind.i64.wrap (IntKind.i64.wrap ((((cl C S).1.getD k []).getD 1 (D.n 0)).int + min (at' S (0 + k)) C) - 1) < ((sr (Wl C s gp) gp).1.length : Int) by rw [eQ, sL]; omega, ?_⟩
    intro _; refine ⟨show (IntKind.i64.wrap (IntKind.i64.wrap ((((cl C S).1.getD k []).getD 1 (D.n 0)).int + min (at' S (0 + k)) C) - 1)).toNat < List.length (sr (Wl C s gp) gp).1 by rw [eQ, sL]; omega, ?_⟩
    intro _; refine ⟨show 0 ≤ IntKind.i64.wrap (IntKind.i64.wrap ((((cl C S).1.getD k []).getD 1 (D.n 0)).int + min (at' S (0 + k)) C) - 1) ∧ IntKind.i64.wrap (IntKind.i64.wrap ((((cl C S).1.getD k []).getD 1 (D.n 0)).int + min (at' S (0 + k)) C) - 1) < ((Wl C s gp).length : Int) by rw [eQ, wL]; omega, ?_⟩
    intro _; refine ⟨show (IntKind.i64.wrap (IntKind.i64.wrap ((((cl C S).1.getD k []).getD 1 (D.n 0)).int + min (at' S (0 + k)) C) - 1)).toNat < List.length (Wl C s gp) by rw [eQ, wL]; omega, ?_⟩
    intro _
    refine Or.inr ?_
    intro _; refine ⟨rfl, ?_⟩
    intro _; refine ⟨fun g3 => by simp at g3, fun _ => ?_⟩
    refine ⟨⟨(rtab_len k _).symm, show k + 1 ≤ 4611686018427387904 by omega, show (k + 1) * 72 ≤ 70368744177664 by omega⟩, ?_⟩
    intro _; refine ⟨by kernel_rfl, ?_⟩
    have b1 := sp_bd hW.2.1 (cel C S k).2.toNat (by omega) (fun i hi => hW.2.2 i (by rw [wL]; omega))
    have b2 := sp_bd hW.2.1 ((cel C S k).2 + min (at' S k) C - 1).toNat (by omega) (fun i hi => hW.2.2 i (by rw [wL]; omega))
    have b3 : 0 ≤ at' (Wl C s gp) ((cel C S k).2 + min (at' S k) C - 1).toNat ∧ at' (Wl C s gp) ((cel C S k).2 + min (at' S k) C - 1).toNat ≤ 1000000 := hW.2.2 ((cel C S k).2 + min (at' S k) C - 1).toNat (by rw [wL]; omega)
    have q1 : (sr (Wl C s gp) gp).1.getD (cel C S k).2.toNat 0 = sp (Wl C s gp) gp (cel C S k).2.toNat := by rw [e3]; exact tab_get _ (by rw [wL]; omega)
    have q2 : (sr (Wl C s gp) gp).1.getD ((cel C S k).2 + min (at' S k) C - 1).toNat 0 = sp (Wl C s gp) gp ((cel C S k).2 + min (at' S k) C - 1).toNat := by rw [e3]; exact tab_get _ (by rw [wL]; omega)
    refine ⟨⟨k + 1, by omega⟩, by simp; omega, th [(5, some 8)] 6, rfl, rfl, rfl, rfl, rfl, rfl, ?_, ?_⟩
    · (repeat' first | exact trivial | exact rfl | refine And.intro ?_ ?_)
      exact (wrap_nat k (by omega)).symm
    · (repeat' first | exact trivial | exact rfl | refine And.intro ?_ ?_)
      show rtab (k + 1) (abx C S (Wl C s gp) gp) = rtab k (abx C S (Wl C s gp) gp) ++ [[D.n 0, D.n ((sr (Wl C s gp) gp).1.getD (((cl C S).1.getD k []).getD 1 (D.n 0)).int.toNat 0), D.n 0, D.n (IntKind.i64.wrap (IntKind.i64.wrap ((sr (Wl C s gp) gp).1.getD (IntKind.i64.wrap (IntKind.i64.wrap ((((cl C S).1.getD k []).getD 1 (D.n 0)).int + min (at' S (0 + k)) C) - 1)).toNat 0 + at' (Wl C s gp) (IntKind.i64.wrap (IntKind.i64.wrap ((((cl C S).1.getD k []).getD 1 (D.n 0)).int + min (at' S (0 + k)) C) - 1)).toNat) - (sr (Wl C s gp) gp).1.getD (((cl C S).1.getD k []).getD 1 (D.n 0)).int.toNat 0)), D.n 0, D.b false, D.n 0]]
      rw [rtab_app, eQ, eC, q1, q2, wrapS (sp (Wl C s gp) gp ((cel C S k).2 + min (at' S k) C - 1).toNat + _) ⟨by omega, by omega⟩, wrapS _ ⟨by omega, by omega⟩]
      rfl
  have g : decide ((k : Int) < ((cl C S).1.length : Int)) = false := g
  rw [eL] at g
  have hkl := of_decide_eq_false g
  have hkl : k = S.length := by omega
  subst hkl
  have eA : ac C S s gp = (rtab S.length (abx C S (Wl C s gp) gp), 0) := by unfold ac; rw [if_neg (fun h => h g0), if_pos hS]
  intro _
  refine ⟨[(1, some 5)], .tup [.grw 1 (ac C S s gp).1.length, .int .i64 (ac C S s gp).2], ⟨2, 1, [(1, .arr [.int .i64, .int .i64, .int .i64, .int .i64, .int .i64, .bool, .nils] .grow (.recs (ac C S s gp).1))]⟩, rfl, rfl, rfl, rfl, ?_, ?_, ⟨rfl, rfl⟩⟩
  · rw [eA]
    (repeat' first | exact trivial | exact rfl | refine And.intro ?_ ?_)
    exact rtab_len _ _
  · rw [eA]
    (repeat' first | exact trivial | exact rfl | refine And.intro ?_ ?_)
theorem mfind_mput (a q : Int) (d : List D) : ∀ l : List (Int × List D), mfind (mput l a d) q = if a = q then some d else mfind l q
  | [] => by simp [mput, mfind]
  | e :: l => by
    simp only [mput]
    by_cases h : e.1 = a
    · rw [if_pos h]
      simp only [mfind]
      by_cases h2 : a = q
      · rw [if_pos h2, if_pos h2]
      · rw [if_neg h2, if_neg h2, if_neg (by omega)]
    · rw [if_neg h]
      simp only [mfind, mfind_mput a q d l]
      by_cases h2 : e.1 = q
      · rw [if_pos h2, if_pos h2, if_neg (by omega)]
      · rw [if_neg h2, if_neg h2]
def ro (C : Int) (S : List Int) (k : Nat) : Int := (cel C S k).1
theorem ro_zero {C : Int} {S : List Int} (h : 1 ≤ C) : ro C S 0 = 0 := by
  unfold ro cel cellOf nx
  rw [if_neg (by show ¬ (0 + min (at' S 0) C > C); omega)]
theorem cel_next (C : Int) (S : List Int) (k : Nat) : ro C S (k + 1) = ro C S k ∧ (cel C S (k + 1)).2 = (cel C S k).2 + min (at' S k) C ∨ ro C S (k + 1) = ro C S k + 1 ∧ (cel C S (k + 1)).2 = 0 := by
  have e : nx C S (k + 1) = ((cel C S k).1, (cel C S k).2 + min (at' S k) C) := rfl
  unfold ro
  by_cases h : (nx C S (k + 1)).2 + min (at' S (k + 1)) C > C
  · right
    have : cel C S (k + 1) = ((nx C S (k + 1)).1 + 1, 0) := by
      show cellOf C (at' S (k + 1)) (nx C S (k + 1)) = _
      unfold cellOf; rw [if_pos h]
    rw [this, e]; exact ⟨rfl, rfl⟩
  · left
    have : cel C S (k + 1) = nx C S (k + 1) := by
      show cellOf C (at' S (k + 1)) (nx C S (k + 1)) = _
      unfold cellOf; rw [if_neg h]
    rw [this, e]; exact ⟨rfl, rfl⟩
def hr (C : Int) (S Hs : List Int) : Nat → Int → Int
  | 0, _ => 0
  | k + 1, r => if ro C S k = r then max (hr C S Hs k r) (at' Hs k) else hr C S Hs k r
def HOk (n : Nat) (Hs : List Int) : Prop := ∀ i, i < n → 0 ≤ at' Hs i ∧ at' Hs i ≤ 1000000
theorem hr_bd {C : Int} {S Hs : List Int} : ∀ k r, HOk k Hs → 0 ≤ hr C S Hs k r ∧ hr C S Hs k r ≤ 1000000
  | 0, _, _ => by simp [hr]
  | k + 1, r, h => by
    have := hr_bd (C := C) (S := S) k r (fun i hi => h i (by omega))
    have := h k (by omega)
    simp only [hr]; split <;> omega
def tp (C : Int) (S Hs : List Int) (gp : Int) : Nat → Int
  | 0 => 0
  | k + 1 => if ro C S (k + 1) = ro C S k then tp C S Hs gp k else tp C S Hs gp k + hr C S Hs S.length (ro C S k) + gp
theorem tp_bd {C : Int} {S Hs : List Int} {gp : Int} (h : HOk S.length Hs) (hg : 0 ≤ gp ∧ gp ≤ 100000) : ∀ k : Nat, 0 ≤ tp C S Hs gp k ∧ tp C S Hs gp k ≤ k * 1100000
  | 0 => by simp [tp]
  | k + 1 => by
    have := tp_bd (C := C) h hg k
    have := hr_bd (C := C) (S := S) S.length (ro C S k) h
    simp only [tp]; split <;> omega
def En (C : Int) (S Hs : List Int) (gp : Int) : Nat → Int
  | 0 => 0
  | k + 1 => tp C S Hs gp k + hr C S Hs S.length (ro C S k)
theorem En_bd {C : Int} {S Hs : List Int} {gp : Int} (h : HOk S.length Hs) (hg : 0 ≤ gp ∧ gp ≤ 100000) : ∀ k : Nat, 0 ≤ En C S Hs gp k ∧ En C S Hs gp k ≤ k * 1100000
  | 0 => by simp [En]
  | k + 1 => by
    have := tp_bd (C := C) h hg k
    have := hr_bd (C := C) (S := S) S.length (ro C S k) h
    simp only [En]; omega
/-- a row begins at an item -/
def Bg (C : Int) (S : List Int) (a : Nat) : Prop := 0 < a → a < S.length → ro C S a = ro C S (a - 1) + 1
theorem tp_row {C : Int} {S Hs : List Int} {gp : Int} {a : Nat} : ∀ k, a ≤ k → (∀ i, a ≤ i → i ≤ k → ro C S i = ro C S a) → tp C S Hs gp k = tp C S Hs gp a
  | 0, h, _ => by have : a = 0 := by omega
                  subst this; rfl
  | k + 1, h, hr => by
    by_cases e : a = k + 1
    · subst e; rfl
    · have e1 := hr (k + 1) (by omega) (by omega)
      have e2 := hr k (by omega) (by omega)
      simp only [tp]
      rw [if_pos (by rw [e1, e2])]
      exact tp_row k (by omega) (fun i h1 h2 => hr i h1 (by omega))
theorem tp_bg {C : Int} {S Hs : List Int} {gp : Int} {a : Nat} (ha : 0 < a) (hb : ro C S a = ro C S (a - 1) + 1) : tp C S Hs gp a = En C S Hs gp a + gp := by
  obtain ⟨b, rfl⟩ : ∃ b, a = b + 1 := ⟨a - 1, by omega⟩
  have hb : ro C S (b + 1) = ro C S b + 1 := hb
  simp only [tp, En]
  rw [if_neg (by omega)]
theorem En_row {C : Int} {S Hs : List Int} {gp : Int} {a u : Nat} (hau : a < u) (hrw : ∀ i, a ≤ i → i < u → ro C S i = ro C S a) : En C S Hs gp u = tp C S Hs gp a + hr C S Hs S.length (ro C S a) := by
  obtain ⟨b, rfl⟩ : ∃ b, u = b + 1 := ⟨u - 1, by omega⟩
  simp only [En]
  rw [tp_row b (by omega) (fun i h1 h2 => hrw i h1 (by omega)), hrw b (by omega) (by omega)]
theorem ro_bd {C : Int} {S : List Int} (hC : 1 ≤ C ∧ C ≤ 64) {k : Nat} (h : ∀ i, i < k + 1 → 1 ≤ at' S i ∧ at' S i ≤ 64) : 0 ≤ ro C S k ∧ ro C S k ≤ k + 1 := by
  have := cel_bd hC h
  exact ⟨this.1, this.2.1⟩
def bX (C : Int) (S W : List Int) (gp : Int) (i : Nat) : Int := sp W gp (cel C S i).2.toNat
def bW (C : Int) (S W : List Int) (gp : Int) (i : Nat) : Int := sp W gp ((cel C S i).2 + min (at' S i) C - 1).toNat + at' W ((cel C S i).2 + min (at' S i) C - 1).toNat - sp W gp (cel C S i).2.toNat
theorem abx_eq (C : Int) (S W : List Int) (gp : Int) (i : Nat) : abx C S W gp i = [D.n 0, D.n (bX C S W gp i), D.n 0, D.n (bW C S W gp i), D.n 0, D.b false, D.n 0] := rfl
def pbx (C : Int) (S Hs W : List Int) (gp : Int) (i : Nat) : List D := [D.n 0, D.n (bX C S W gp i), D.n (tp C S Hs gp i), D.n (bW C S W gp i), D.n (at' Hs i), D.b false, D.n 0]
def mbx (C : Int) (S Hs W : List Int) (gp : Int) (a i : Nat) : List D := if i < a then pbx C S Hs W gp i else abx C S W gp i
instance decHOk (n : Nat) (Hs : List Int) : Decidable (HOk n Hs) := inferInstanceAs (Decidable (∀ i, i < n → _))
def pl (C : Int) (S Hs : List Int) (s gp : Int) : Rows × Int × Int :=
  if (ac C S s gp).2 ≠ 0 then ([], 0, (ac C S s gp).2) else if Hs.length = S.length ∧ HOk S.length Hs then (if En C S Hs gp S.length > 1000000000 then ([], 0, 3) else (rtab S.length (pbx C S Hs (Wl C s gp) gp), En C S Hs gp S.length, 0)) else ([], 0, 1)
def PlQ (C : Int) (S Hs : List Int) (s gp : Int) : V → H → Prop := fun v h' => v = .tup [.grw 2 (pl C S Hs s gp).1.length, .int .i64 (pl C S Hs s gp).2.1, .int .i64 (pl C S Hs s gp).2.2] ∧ h' = ⟨3, 2, [(2, .arr [.int .i64, .int .i64, .int .i64, .int .i64, .int .i64, .bool, .nils] .grow (.recs (pl C S Hs s gp).1))]⟩
theorem ac_zero {C : Int} {S : List Int} {s gp : Int} (h : (ac C S s gp).2 = 0) : SpOk C S ∧ ShOk (colsL C) s gp ∧ ac C S s gp = (rtab S.length (abx C S (Wl C s gp) gp), 0) := by
  unfold ac at h ⊢
  split at h
  · rename_i g; exact absurd h g
  · rename_i g
    have g0 : (cl C S).2 = 0 := by omega
    split at h
    · rename_i g2
      refine ⟨cl_zero g0, g2, ?_⟩
      rw [if_neg (fun h => h g0), if_pos g2]
    · simp at h
def MapOk (C : Int) (S Hs : List Int) (k : Nat) (m : List (Int × List D)) : Prop := ∀ r : Int, (((mfind m r).getD [D.n 0]).getD 0 (.n 0)).int = hr C S Hs k r
theorem map_next {C : Int} {S Hs : List Int} {k : Nat} {m : List (Int × List D)} (h : MapOk C S Hs k m) : MapOk C S Hs (k + 1) (mput m (ro C S k) [D.n (max (hr C S Hs k (ro C S k)) (at' Hs k))]) := fun r => by
  rw [mfind_mput]
  simp only [hr]
  by_cases e : ro C S k = r
  · rw [if_pos e, if_pos e]; subst e; rfl
  · rw [if_neg e, if_neg e]; exact h r
def sY (y : Int) (r : List D) : List D := [r.getD 0 (D.n 0), r.getD 1 (D.n 0), D.n y, r.getD 3 (D.n 0), r.getD 4 (D.n 0), r.getD 5 (D.n 0), r.getD 6 (D.n 0)]
def sH (y : Int) (r : List D) : List D := [r.getD 0 (D.n 0), r.getD 1 (D.n 0), r.getD 2 (D.n 0), r.getD 3 (D.n 0), D.n y, r.getD 5 (D.n 0), r.getD 6 (D.n 0)]
theorem box_set {C : Int} {S Hs W : List Int} {gp y : Int} {n b : Nat} (hb : b < n) (hy : tp C S Hs gp b = y) :
    ((rtab n (mbx C S Hs W gp b)).set b (sY y ((rtab n (mbx C S Hs W gp b)).getD b []))).set b (sH (at' Hs b) (((rtab n (mbx C S Hs W gp b)).set b (sY y ((rtab n (mbx C S Hs W gp b)).getD b []))).getD b [])) = rtab n (mbx C S Hs W gp (b + 1)) := by
  have e0 : (rtab n (mbx C S Hs W gp b)).getD b [] = abx C S W gp b := by rw [rtab_get _ hb]; exact if_neg (by omega)
  rw [e0, rtab_set, rtab_get _ hb, if_pos rfl, rtab_set]
  refine rtab_ext (fun i _ => ?_)
  by_cases e : i = b
  · subst e
    rw [if_pos rfl]
    unfold mbx; rw [if_pos (by omega)]
    unfold pbx; rw [hy]; rfl
  · rw [if_neg e, if_neg e]
    unfold mbx
    by_cases e2 : i < b
    · rw [if_pos e2, if_pos (by omega)]
    · rw [if_neg e2, if_neg (by omega)]
abbrev K7 : List CK := [.int .i64, .int .i64, .int .i64, .int .i64, .int .i64, .bool, .nils]
set_option maxHeartbeats 8000000 in
theorem place_ok (C : Int) (S Hs : List Int) (s gp : Int) (hl : S.length ≤ 9223372036854775807) (hh : Hs.length ≤ 9223372036854775807) : SemF Try.prog 35 [.int .i64 C, .slc 0 1 0 S.length, .slc 1 1 0 Hs.length, .int .i64 s, .int .i64 gp] ⟨2, 2, [(0, .arr [.int .i64] .rd (.ints S)), (1, .arr [.int .i64] .rd (.ints Hs))]⟩ (PlQ C S Hs s gp) := by
  refine SemF.ret ?_
  refine enter tt_ok Try.func35 (nt := 125) (cd := body Try.f35) rfl rfl rfl rfl ?_
  have bad : ∀ e : Int, pl C S Hs s gp = ([], 0, e) → ∀ nx hx, Nat.ble 2 nx = true → Ret 2 (PlQ C S Hs s gp) (.tup [.nils, .int .i64 0, .int .i64 e]) ⟨nx, 2, hx⟩ := fun e e1 nx hx hn => by
    refine ⟨[(2, none)], .tup [.grw 2 0, .int .i64 0, .int .i64 e], ⟨3, 2, [(2, .arr [.int .i64, .int .i64, .int .i64, .int .i64, .int .i64, .bool, .nils] .grow (.recs []))]⟩, rfl, rfl, rfl, rfl, ?_, ?_, ?_, ?_⟩
    · (repeat' first | exact trivial | exact rfl | refine And.intro ?_ ?_)
    · (repeat' first | exact trivial | exact rfl | refine And.intro ?_ ?_)
    · rw [e1]; rfl
    · rw [e1]
  intro _
  refine call_new [(0, some 0)] (across_ok C S s gp hl) rfl rfl rfl rfl ?_ ?_ ?_
  · (repeat' first | exact trivial | exact rfl | refine And.intro ?_ ?_)
  · (repeat' first | exact trivial | exact rfl | refine And.intro ?_ ?_)
  intro v h' hv
  obtain ⟨rfl, rfl⟩ := hv
  refine ⟨[(4, some 1)], 5, [(4, .arr [.int .i64, .int .i64, .int .i64, .int .i64, .int .i64, .bool, .nils] .grow (.recs (ac C S s gp).1))], .tup [.grw 4 (ac C S s gp).1.length, .int .i64 (ac C S s gp).2], rfl, rfl, rfl, rfl, rfl, ?_, ?_, ?_⟩
  · (repeat' first | exact trivial | exact rfl | refine And.intro ?_ ?_)
  · (repeat' first | exact trivial | exact rfl | refine And.intro ?_ ?_)
  intro _; refine ⟨fun g => ?_, fun g => ?_⟩
  · have g : ((ac C S s gp).2 != 0) = true := g
    have g : (ac C S s gp).2 ≠ 0 := by simpa using g
    intro _
    exact bad _ (by unfold pl; rw [if_pos g]) _ _ rfl
  have g : ((ac C S s gp).2 != 0) = false := g
  have g0 : (ac C S s gp).2 = 0 := by simpa using g
  obtain ⟨hU, hS, eA⟩ := ac_zero g0
  have h4 := hU.1
  have hC := hU.2.1
  have hg := hS.2.2
  have aL : List.length (ac C S s gp).1 = S.length := by rw [eA]; exact rtab_len _ _
  have bad2 : ¬ (Hs.length = S.length ∧ HOk S.length Hs) → pl C S Hs s gp = ([], 0, 1) := fun e => by unfold pl; rw [if_neg (fun h => h g0), if_neg e]
  intro _; refine ⟨fun g => ?_, fun g => ?_⟩
  · have g : ((Hs.length : Int) != (S.length : Int)) = true := g
    intro _
    exact bad 1 (bad2 fun h => by rw [h.1] at g; simp at g) _ _ rfl
  have g : ((Hs.length : Int) != (S.length : Int)) = false := g
  have hL : Hs.length = S.length := by
    have g2 : (Hs.length : Int) = (S.length : Int) := by simpa using g
    omega
  intro _
  refine loop2 tt_ok [45] [] 6 (fun k : { k : Nat // k ≤ S.length ∧ HOk k Hs } => [(45, .int .i64 (k : Nat))]) (fun _ => []) (fun k => S.length - k) ⟨0, by omega, fun i h => by omega⟩ ?_
  intro _
  refine ⟨⟨th [] 6, rfl, rfl, rfl, rfl, rfl, rfl, ?_, ?_⟩, ?_⟩
  · (repeat' first | exact trivial | exact rfl | refine And.intro ?_ ?_)
  · (repeat' first | exact trivial | exact rfl | refine And.intro ?_ ?_)
  intro ⟨k, hk, hmk⟩
  have z : 0 + k = k := Nat.zero_add k
  intro _; refine ⟨fun g => ?_, fun g => ?_⟩
  · have hkl := of_decide_eq_true (show decide ((k : Int) < (Hs.length : Int)) = true from g)
    intro _; refine ⟨show 0 ≤ (k : Int) ∧ (k : Int) < (Hs.length : Int) by omega, ?_⟩
    intro _; refine ⟨show 0 + (k : Int).toNat < Hs.length by omega, ?_⟩
    intro _; refine ⟨fun g => ?_, fun g => ?_⟩
    · have g : decide (at' Hs (0 + k) < 0) = true := g
      rw [z] at g
      have g := of_decide_eq_true g
      intro _
      exact bad 1 (bad2 fun h => by have := h.2 k (by omega); omega) _ _ rfl
    have g : decide (at' Hs (0 + k) < 0) = false := g
    rw [z] at g
    have g1 := of_decide_eq_false g
    intro _; refine ⟨fun g => ?_, fun g => ?_⟩
    · have g : decide (at' Hs (0 + k) > 1000000) = true := g
      rw [z] at g
      have g := of_decide_eq_true g
      intro _
      exact bad 1 (bad2 fun h => by have := h.2 k (by omega); omega) _ _ rfl
    have g : decide (at' Hs (0 + k) > 1000000) = false := g
    rw [z] at g
    have g2 := of_decide_eq_false g
    refine ⟨⟨k + 1, by omega, fun i hi => ?_⟩, by simp; omega, th [] 6, rfl, rfl, rfl, rfl, rfl, rfl, ?_, ?_⟩
    · by_cases e : i = k
      · subst e; omega
      · exact hmk i (by omega)
    · (repeat' first | exact trivial | exact rfl | refine And.intro ?_ ?_)
      exact (wrap_nat k (by omega)).symm
    · (repeat' first | exact trivial | exact rfl | refine And.intro ?_ ?_)
  have hkl := of_decide_eq_false (show decide ((k : Int) < (Hs.length : Int)) = false from g)
  have hkl : k = S.length := by omega
  subst hkl
  intro _
  refine call_new [(0, some 0)] (cells_ok C S hl) rfl rfl rfl rfl ?_ ?_ ?_
  · (repeat' first | exact trivial | exact rfl | refine And.intro ?_ ?_)
  · (repeat' first | exact trivial | exact rfl | refine And.intro ?_ ?_)
  intro v h' hv
  obtain ⟨rfl, rfl⟩ := hv
  refine ⟨[(6, some 1)], 7, [(6, .arr [.int .i64, .int .i64] .grow (.recs (cl C S).1))], .tup [.grw 6 (cl C S).1.length, .int .i64 (cl C S).2], rfl, rfl, rfl, rfl, rfl, ?_, ?_, ?_⟩
  · (repeat' first | exact trivial | exact rfl | refine And.intro ?_ ?_)
  · (repeat' first | exact trivial | exact rfl | refine And.intro ?_ ?_)
  have e1 := cl_ok hU
  have eL : List.length (cl C S).1 = S.length := by rw [e1]; exact rtab_len _ _
  intro _
  refine loop2 tt_ok [65] [8] 10 (fun x : { x : Nat × List (Int × List D) // x.1 ≤ S.length ∧ MapOk C S Hs x.1 x.2 } => [(65, .int .i64 (x.1.1 : Nat))]) (fun x => [(8, .map .i64 [.int .i64] false x.1.2)]) (fun x => S.length - x.1.1) ⟨(0, []), by simp, fun r => rfl⟩ ?_
  intro _
  refine ⟨⟨th [] 10, rfl, rfl, rfl, rfl, rfl, rfl, ?_, ?_⟩, ?_⟩
  · (repeat' first | exact trivial | exact rfl | refine And.intro ?_ ?_)
  · (repeat' first | exact trivial | exact rfl | refine And.intro ?_ ?_)
  intro ⟨⟨k, m⟩, hk, hm⟩
  have hk : k ≤ S.length := hk
  have hm : MapOk C S Hs k m := hm
  have z : 0 + k = k := Nat.zero_add k
  intro _; refine ⟨fun g => ?_, fun g => ?_⟩
  · have g : decide ((k : Int) < ((cl C S).1.length : Int)) = true := g
    rw [eL] at g
    have hkl := of_decide_eq_true g
    have hkn : k < S.length := by omega
    have er : (cl C S).1.getD k [] = crow C S k := by rw [e1]; exact rtab_get _ hkn
    have eR : (((cl C S).1.getD k []).getD 0 (D.n 0)).int = ro C S k := by rw [er]; rfl
    intro _; refine ⟨show 0 ≤ (k : Int) ∧ (k : Int) < ((cl C S).1.length : Int) by rw [eL]; omega, ?_⟩
    intro _; refine ⟨show (k : Int).toNat < List.length (cl C S).1 by rw [eL]; omega, ?_⟩
    intro _; refine ⟨show 0 ≤ (k : Int) ∧ (k : Int) < (Hs.length : Int) by omega, ?_⟩
    intro _; refine ⟨show 0 + (k : Int).toNat < Hs.length by omega, ?_⟩
    intro _; refine ⟨by kernel_rfl, ?_⟩
    have eM : max (((mfind m (((cl C S).1.getD k []).getD 0 (D.n 0)).int).getD [D.n 0]).getD 0 (.n 0)).int (at' Hs (0 + k)) = max (hr C S Hs k (ro C S k)) (at' Hs k) := by rw [eR, hm, z]
    refine ⟨⟨(k + 1, mput m (ro C S k) [D.n (max (hr C S Hs k (ro C S k)) (at' Hs k))]), by show k + 1 ≤ S.length; omega, map_next hm⟩, by simp; omega, th [] 10, rfl, rfl, rfl, rfl, rfl, rfl, ?_, ?_⟩
    · (repeat' first | exact trivial | exact rfl | refine And.intro ?_ ?_)
      exact (wrap_nat k (by omega)).symm
    · (repeat' first | exact trivial | exact rfl | refine And.intro ?_ ?_)
      show mput m (ro C S k) [D.n (max (hr C S Hs k (ro C S k)) (at' Hs k))] = mput m (((cl C S).1.getD k []).getD 0 (D.n 0)).int [D.n (max (((mfind m (((cl C S).1.getD k []).getD 0 (D.n 0)).int).getD [D.n 0]).getD 0 (.n 0)).int (at' Hs (0 + k)))]
      rw [eM, eR]
  have g : decide ((k : Int) < ((cl C S).1.length : Int)) = false := g
  rw [eL] at g
  have hkl := of_decide_eq_false g
  have hkl : k = S.length := by omega
  subst hkl
  intro _
  refine enter tt_ok Try.func51 (nt := 4) (cd := body Try.f51) rfl rfl rfl rfl ?_
  intro _
  intro _
  refine range_ok ?_
  intro _
  refine enter tt_ok Try.func62 (nt := 37) (cd := body Try.f62) rfl rfl rfl rfl ?_
  intro _
  refine loop2 tt_ok [3] [10, 4] 14 (fun a : { a : Nat // a ≤ S.length ∧ Bg C S a } => [(3, .int .i64 (a : Nat))]) (fun a => [(10, .cells [.int .i64 (En C S Hs gp a)]), (4, .arr [.int .i64, .int .i64, .int .i64, .int .i64, .int .i64, .bool, .nils] .grow (.recs (rtab S.length (mbx C S Hs (Wl C s gp) gp a))))]) (fun a => S.length - a) ⟨0, by omega, fun h => by omega⟩ ?_
  intro _
  refine ⟨⟨th [] 14, rfl, rfl, rfl, rfl, rfl, rfl, ?_, ?_⟩, ?_⟩
  · (repeat' first | exact trivial | exact rfl | refine And.intro ?_ ?_)
  · (repeat' first | exact trivial | exact rfl | refine And.intro ?_ ?_)
    show rtab S.length (mbx C S Hs (Wl C s gp) gp 0) = (ac C S s gp).1
    rw [eA]
    exact rtab_ext (fun i _ => if_neg (by omega))
  intro ⟨a, ha, hb⟩
  intro _; refine ⟨fun g => ?_, fun g => ?_⟩
  rotate_left
  · have g : decide ((a : Int) < ((cl C S).1.length : Int)) = false := g
    rw [eL] at g
    have hkl := of_decide_eq_false g
    have hkl : a = S.length := by omega
    subst hkl
    have eP : En C S Hs gp S.length ≤ 1000000000 → pl C S Hs s gp = (rtab S.length (pbx C S Hs (Wl C s gp) gp), En C S Hs gp S.length, 0) := fun h => by
      unfold pl; rw [if_neg (fun h => h g0), if_pos ⟨hL, hmk⟩, if_neg (by omega)]
    intro _
    intro _; refine ⟨fun g => ?_, fun g => ?_⟩
    · have g := of_decide_eq_true (show decide (En C S Hs gp S.length > 1000000000) = true from g)
      intro _
      exact bad 3 (by unfold pl; rw [if_neg (fun h => h g0), if_pos ⟨hL, hmk⟩, if_pos g]) _ _ rfl
    have g := of_decide_eq_false (show decide (En C S Hs gp S.length > 1000000000) = false from g)
    have eP := eP (by omega)
    intro _; refine ⟨by kernel_rfl, ?_⟩
    intro _
    refine ⟨[(2, some 4)], .tup [.grw 2 (pl C S Hs s gp).1.length, .int .i64 (pl C S Hs s gp).2.1, .int .i64 (pl C S Hs s gp).2.2], ⟨3, 2, [(2, .arr [.int .i64, .int .i64, .int .i64, .int .i64, .int .i64, .bool, .nils] .grow (.recs (pl C S Hs s gp).1))]⟩, rfl, rfl, rfl, rfl, ?_, ?_, ⟨rfl, rfl⟩⟩
    · rw [eP]
      (repeat' first | exact trivial | exact rfl | refine And.intro ?_ ?_)
      show List.length (rtab S.length _) = List.length (ac C S s gp).1
      rw [rtab_len, aL]
    · rw [eP]
      (repeat' first | exact trivial | exact rfl | refine And.intro ?_ ?_)
      exact rtab_ext (fun i hi => (if_pos hi).symm)
  have g : decide ((a : Int) < ((cl C S).1.length : Int)) = true := g
  rw [eL] at g
  have hal := of_decide_eq_true g
  have han : a < S.length := by omega
  have era : (cl C S).1.getD a [] = crow C S a := by rw [e1]; exact rtab_get _ han
  have eRa : (((cl C S).1.getD a []).getD 0 (D.n 0)).int = ro C S a := by rw [era]; rfl
  have rb := ro_bd hC (k := a) (fun i hi => hU.2.2 i (by omega))
  intro _
  refine loop2 tt_ok [4] [] 14 (fun u : { u : Nat // a < u ∧ u ≤ S.length ∧ ∀ i, a ≤ i → i < u → ro C S i = ro C S a } => [(4, .int .i64 (u : Nat))]) (fun _ => []) (fun u => S.length - u) ⟨a + 1, by omega, by omega, fun i h1 h2 => by rw [show i = a by omega]⟩ ?_
  intro _
  refine ⟨⟨th [] 14, rfl, rfl, rfl, rfl, rfl, rfl, ?_, ?_⟩, ?_⟩
  · (repeat' first | exact trivial | exact rfl | refine And.intro ?_ ?_)
    exact (wrap_nat a (by omega)).symm
  · (repeat' first | exact trivial | exact rfl | refine And.intro ?_ ?_)
  intro ⟨u, hau, hu, hru⟩
  intro _; refine ⟨fun g => ?_, fun g => ?_⟩
  · have g : decide ((u : Int) < ((cl C S).1.length : Int)) = true := g
    rw [eL] at g
    have hul := of_decide_eq_true g
    have hun : u < S.length := by omega
    have eru : (cl C S).1.getD u [] = crow C S u := by rw [e1]; exact rtab_get _ hun
    have u0 : (((cl C S).1.getD u []).getD 0 (D.n 0)).int = ro C S u := by rw [eru]; rfl
    have u1 : (((cl C S).1.getD u []).getD 1 (D.n 0)).int = (cel C S u).2 := by rw [eru]; rfl
    have eRw : IntKind.i64.wrap ((((cl C S).1.getD a []).getD 0 (D.n 0)).int + 1) = ro C S a + 1 := by rw [eRa]; exact wrapS _ ⟨by omega, by omega⟩
    have hst := cel_next C S (u - 1)
    rw [show u - 1 + 1 = u by omega, hru (u - 1) (by omega) (by omega)] at hst
    have hc2 := cel_bd hC (k := u - 1) (fun i hi => hU.2.2 i (by omega))
    have hs2 := hU.2.2 (u - 1) (by omega)
    intro _; refine ⟨show 0 ≤ (u : Int) ∧ (u : Int) < ((cl C S).1.length : Int) by rw [eL]; omega, ?_⟩
    intro _; refine ⟨show (u : Int).toNat < List.length (cl C S).1 by rw [eL]; omega, ?_⟩
    intro _; refine ⟨show 0 ≤ (a : Int) ∧ (a : Int) < ((cl C S).1.length : Int) by rw [eL]; omega, ?_⟩
    intro _; refine ⟨show (a : Int).toNat < List.length (cl C S).1 by rw [eL]; omega, ?_⟩
    intro _; refine ⟨by kernel_rfl, ?_⟩
    intro _; refine ⟨fun g => ?_, fun g => ?_⟩
    · have g : (!(((((cl C S).1.getD u []).getD 0 (D.n 0)).int == IntKind.i64.wrap ((((cl C S).1.getD a []).getD 0 (D.n 0)).int + 1)) && ((((cl C S).1.getD u []).getD 1 (D.n 0)).int == 0))) = true := g
      rw [u0, u1, eRw] at g
      have hr1 : ro C S u = ro C S a := by
        rcases hst with h | h
        · exact h.1
        · rw [h.1, h.2] at g; simp at g
      refine ⟨⟨u + 1, by omega, by omega, fun i h1 h2 => ?_⟩, by simp; omega, th [] 14, rfl, rfl, rfl, rfl, rfl, rfl, ?_, ?_⟩
      · by_cases e : i = u
        · rw [e, hr1]
        · exact hru i h1 (by omega)
      · (repeat' first | exact trivial | exact rfl | refine And.intro ?_ ?_)
        exact (wrap_nat u (by omega)).symm
      · (repeat' first | exact trivial | exact rfl | refine And.intro ?_ ?_)
    have g : (!(((((cl C S).1.getD u []).getD 0 (D.n 0)).int == IntKind.i64.wrap ((((cl C S).1.getD a []).getD 0 (D.n 0)).int + 1)) && ((((cl C S).1.getD u []).getD 1 (D.n 0)).int == 0))) = false := g
    rw [u0, u1, eRw] at g
    have hB : Bg C S u := fun _ _ => by
      rw [hru (u - 1) (by omega) (by omega)]
      simp at g
      exact g.1
    intro _
    refine yield_ok tt_ok ?_
    intro _; refine ⟨show 0 ≤ (a : Int) ∧ (a : Int) < ((cl C S).1.length : Int) by rw [eL]; omega, ?_⟩
    intro _; refine ⟨show (a : Int).toNat < List.length (cl C S).1 by rw [eL]; omega, ?_⟩
    have tb := tp_bd (C := C) hmk hg a
    have eb := En_bd (C := C) hmk hg a
    intro _; refine ⟨fun g => ?_, fun g => ?_⟩
    · have g : decide ((((cl C S).1.getD a []).getD 0 (D.n 0)).int > 0) = true := g
      rw [eRa] at g
      have g := of_decide_eq_true g
      have ha0 : 0 < a := Nat.pos_of_ne_zero (fun e => by subst e; rw [ro_zero hC.1] at g; omega)
      have eY : IntKind.i64.wrap (En C S Hs gp a + gp) = tp C S Hs gp a := by
        rw [tp_bg ha0 (hb ha0 han)]; exact wrapS _ ⟨by omega, by omega⟩
      intro _
      refine loop2 tt_ok [26] [10, 4] 14 (fun b : { b : Nat // a ≤ b ∧ b ≤ u } => [(26, .int .i64 (b : Nat))]) (fun b => [(10, .cells [.int .i64 (tp C S Hs gp a)]), (4, .arr [.int .i64, .int .i64, .int .i64, .int .i64, .int .i64, .bool, .nils] .grow (.recs (rtab S.length (mbx C S Hs (Wl C s gp) gp b))))]) (fun b => u - b) ⟨a, by omega, by omega⟩ ?_
      intro _
      refine ⟨⟨th [] 14, rfl, rfl, rfl, rfl, rfl, rfl, ?_, ?_⟩, ?_⟩
      · (repeat' first | exact trivial | exact rfl | refine And.intro ?_ ?_)
      · (repeat' first | exact trivial | exact rfl | refine And.intro ?_ ?_)
        exact eY.symm
      intro ⟨b, hab, hbu⟩
      intro _; refine ⟨fun g => ?_, fun g => ?_⟩
      · have hbl := of_decide_eq_true (show decide ((b : Int) < (u : Int)) = true from g)
        intro _; refine ⟨show 0 ≤ (b : Int) ∧ (b : Int) < (Hs.length : Int) by omega, ?_⟩
        intro _; refine ⟨show 0 + (b : Int).toNat < Hs.length by omega, ?_⟩
        intro _; refine ⟨show 0 ≤ (b : Int) ∧ (b : Int) < ((ac C S s gp).1.length : Int) by rw [aL]; omega, ?_⟩
        intro _; refine ⟨show (b : Int).toNat < List.length (rtab S.length (mbx C S Hs (Wl C s gp) gp b)) by rw [rtab_len]; omega, ?_⟩
        intro _; refine ⟨show 0 ≤ (b : Int) ∧ (b : Int) < ((ac C S s gp).1.length : Int) by rw [aL]; omega, ?_⟩
        intro _; refine ⟨show (b : Int).toNat < List.length (List.set _ _ _) by rw [List.length_set, rtab_len]; omega, ?_⟩
        intro _; refine ⟨by kernel_rfl, ?_⟩
        have et : tp C S Hs gp b = tp C S Hs gp a := tp_row b hab (fun i h1 h2 => hru i h1 (by omega))
        refine ⟨⟨b + 1, by omega, by omega⟩, by simp; omega, th [] 14, rfl, rfl, rfl, rfl, rfl, rfl, ?_, ?_⟩
        · (repeat' first | exact trivial | exact rfl | refine And.intro ?_ ?_)
          exact (wrap_nat b (by omega)).symm
        · (repeat' first | exact trivial | exact rfl | refine And.intro ?_ ?_)
          show rtab S.length (mbx C S Hs (Wl C s gp) gp (b + 1)) = ((rtab S.length (mbx C S Hs (Wl C s gp) gp b)).set b (sY (tp C S Hs gp a) ((rtab S.length (mbx C S Hs (Wl C s gp) gp b)).getD b []))).set b (sH (at' Hs (0 + b)) (((rtab S.length (mbx C S Hs (Wl C s gp) gp b)).set b (sY (tp C S Hs gp a) ((rtab S.length (mbx C S Hs (Wl C s gp) gp b)).getD b []))).getD b []))
          rw [Nat.zero_add]
          exact (box_set (by omega) et).symm
      have hbl := of_decide_eq_false (show decide ((b : Int) < (u : Int)) = false from g)
      have e : u = b := by omega
      subst e
      intro _
      have hrb := hr_bd (C := C) (S := S) S.length (ro C S a) hmk
      refine ⟨⟨u, hu, hB⟩, by simp; omega, th [] 14, rfl, rfl, rfl, rfl, rfl, rfl, ?_, ?_⟩
      · (repeat' first | exact trivial | exact rfl | refine And.intro ?_ ?_)
      · (repeat' first | exact trivial | exact rfl | refine And.intro ?_ ?_)
        show En C S Hs gp u = IntKind.i64.wrap (tp C S Hs gp a + (((mfind m (((cl C S).1.getD a []).getD 0 (D.n 0)).int).getD [D.n 0]).getD 0 (.n 0)).int)
        rw [eRa, hm, En_row hau hru]
        exact (wrapS _ ⟨by omega, by omega⟩).symm
    have g : decide ((((cl C S).1.getD a []).getD 0 (D.n 0)).int > 0) = false := g
    rw [eRa] at g
    have g := of_decide_eq_false g
    have ha0 : a = 0 := by
      rcases Nat.eq_zero_or_pos a with e | e
      · exact e
      · have h1 := hb e han
        have h2 := (ro_bd hC (k := a - 1) (fun i hi => hU.2.2 i (by omega))).1
        omega
    have eY : En C S Hs gp a = tp C S Hs gp a := by subst ha0; rfl
    intro _
    refine loop2 tt_ok [26] [10, 4] 14 (fun b : { b : Nat // a ≤ b ∧ b ≤ u } => [(26, .int .i64 (b : Nat))]) (fun b => [(10, .cells [.int .i64 (tp C S Hs gp a)]), (4, .arr [.int .i64, .int .i64, .int .i64, .int .i64, .int .i64, .bool, .nils] .grow (.recs (rtab S.length (mbx C S Hs (Wl C s gp) gp b))))]) (fun b => u - b) ⟨a, by omega, by omega⟩ ?_
    intro _
    refine ⟨⟨th [] 14, rfl, rfl, rfl, rfl, rfl, rfl, ?_, ?_⟩, ?_⟩
    · (repeat' first | exact trivial | exact rfl | refine And.intro ?_ ?_)
    · (repeat' first | exact trivial | exact rfl | refine And.intro ?_ ?_)
      exact eY.symm
    intro ⟨b, hab, hbu⟩
    intro _; refine ⟨fun g => ?_, fun g => ?_⟩
    · have hbl := of_decide_eq_true (show decide ((b : Int) < (u : Int)) = true from g)
      intro _; refine ⟨show 0 ≤ (b : Int) ∧ (b : Int) < (Hs.length : Int) by omega, ?_⟩
      intro _; refine ⟨show 0 + (b : Int).toNat < Hs.length by omega, ?_⟩
      intro _; refine ⟨show 0 ≤ (b : Int) ∧ (b : Int) < ((ac C S s gp).1.length : Int) by rw [aL]; omega, ?_⟩
      intro _; refine ⟨show (b : Int).toNat < List.length (rtab S.length (mbx C S Hs (Wl C s gp) gp b)) by rw [rtab_len]; omega, ?_⟩
      intro _; refine ⟨show 0 ≤ (b : Int) ∧ (b : Int) < ((ac C S s gp).1.length : Int) by rw [aL]; omega, ?_⟩
      intro _; refine ⟨show (b : Int).toNat < List.length (List.set _ _ _) by rw [List.length_set, rtab_len]; omega, ?_⟩
      intro _; refine ⟨by kernel_rfl, ?_⟩
      have et : tp C S Hs gp b = tp C S Hs gp a := tp_row b hab (fun i h1 h2 => hru i h1 (by omega))
      refine ⟨⟨b + 1, by omega, by omega⟩, by simp; omega, th [] 14, rfl, rfl, rfl, rfl, rfl, rfl, ?_, ?_⟩
      · (repeat' first | exact trivial | exact rfl | refine And.intro ?_ ?_)
        exact (wrap_nat b (by omega)).symm
      · (repeat' first | exact trivial | exact rfl | refine And.intro ?_ ?_)
        show rtab S.length (mbx C S Hs (Wl C s gp) gp (b + 1)) = ((rtab S.length (mbx C S Hs (Wl C s gp) gp b)).set b (sY (tp C S Hs gp a) ((rtab S.length (mbx C S Hs (Wl C s gp) gp b)).getD b []))).set b (sH (at' Hs (0 + b)) (((rtab S.length (mbx C S Hs (Wl C s gp) gp b)).set b (sY (tp C S Hs gp a) ((rtab S.length (mbx C S Hs (Wl C s gp) gp b)).getD b []))).getD b []))
        rw [Nat.zero_add]
        exact (box_set (by omega) et).symm
    have hbl := of_decide_eq_false (show decide ((b : Int) < (u : Int)) = false from g)
    have e : u = b := by omega
    subst e
    intro _
    have hrb := hr_bd (C := C) (S := S) S.length (ro C S a) hmk
    refine ⟨⟨u, hu, hB⟩, by simp; omega, th [] 14, rfl, rfl, rfl, rfl, rfl, rfl, ?_, ?_⟩
    · (repeat' first | exact trivial | exact rfl | refine And.intro ?_ ?_)
    · (repeat' first | exact trivial | exact rfl | refine And.intro ?_ ?_)
      show En C S Hs gp u = IntKind.i64.wrap (tp C S Hs gp a + (((mfind m (((cl C S).1.getD a []).getD 0 (D.n 0)).int).getD [D.n 0]).getD 0 (.n 0)).int)
      rw [eRa, hm, En_row hau hru]
      exact (wrapS _ ⟨by omega, by omega⟩).symm
  have g : decide ((u : Int) < ((cl C S).1.length : Int)) = false := g
  rw [eL] at g
  have hul := of_decide_eq_false g
  have hB : Bg C S u := fun _ _ => by omega
  intro _; refine ⟨by kernel_rfl, ?_⟩
  intro _
  refine yield_ok tt_ok ?_
  intro _; refine ⟨show 0 ≤ (a : Int) ∧ (a : Int) < ((cl C S).1.length : Int) by rw [eL]; omega, ?_⟩
  intro _; refine ⟨show (a : Int).toNat < List.length (cl C S).1 by rw [eL]; omega, ?_⟩
  have tb := tp_bd (C := C) hmk hg a
  have eb := En_bd (C := C) hmk hg a
  intro _; refine ⟨fun g => ?_, fun g => ?_⟩
  · have g : decide ((((cl C S).1.getD a []).getD 0 (D.n 0)).int > 0) = true := g
    rw [eRa] at g
    have g := of_decide_eq_true g
    have ha0 : 0 < a := Nat.pos_of_ne_zero (fun e => by subst e; rw [ro_zero hC.1] at g; omega)
    have eY : IntKind.i64.wrap (En C S Hs gp a + gp) = tp C S Hs gp a := by
      rw [tp_bg ha0 (hb ha0 han)]; exact wrapS _ ⟨by omega, by omega⟩
    intro _
    refine loop2 tt_ok [26] [10, 4] 14 (fun b : { b : Nat // a ≤ b ∧ b ≤ u } => [(26, .int .i64 (b : Nat))]) (fun b => [(10, .cells [.int .i64 (tp C S Hs gp a)]), (4, .arr [.int .i64, .int .i64, .int .i64, .int .i64, .int .i64, .bool, .nils] .grow (.recs (rtab S.length (mbx C S Hs (Wl C s gp) gp b))))]) (fun b => u - b) ⟨a, by omega, by omega⟩ ?_
    intro _
    refine ⟨⟨th [] 14, rfl, rfl, rfl, rfl, rfl, rfl, ?_, ?_⟩, ?_⟩
    · (repeat' first | exact trivial | exact rfl | refine And.intro ?_ ?_)
    · (repeat' first | exact trivial | exact rfl | refine And.intro ?_ ?_)
      exact eY.symm
    intro ⟨b, hab, hbu⟩
    intro _; refine ⟨fun g => ?_, fun g => ?_⟩
    · have hbl := of_decide_eq_true (show decide ((b : Int) < (u : Int)) = true from g)
      intro _; refine ⟨show 0 ≤ (b : Int) ∧ (b : Int) < (Hs.length : Int) by omega, ?_⟩
      intro _; refine ⟨show 0 + (b : Int).toNat < Hs.length by omega, ?_⟩
      intro _; refine ⟨show 0 ≤ (b : Int) ∧ (b : Int) < ((ac C S s gp).1.length : Int) by rw [aL]; omega, ?_⟩
      intro _; refine ⟨show (b : Int).toNat < List.length (rtab S.length (mbx C S Hs (Wl C s gp) gp b)) by rw [rtab_len]; omega, ?_⟩
      intro _; refine ⟨show 0 ≤ (b : Int) ∧ (b : Int) < ((ac C S s gp).1.length : Int) by rw [aL]; omega, ?_⟩
      intro _; refine ⟨show (b : Int).toNat < List.length (List.set _ _ _) by rw [List.length_set, rtab_len]; omega, ?_⟩
      intro _; refine ⟨by kernel_rfl, ?_⟩
      have et : tp C S Hs gp b = tp C S Hs gp a := tp_row b hab (fun i h1 h2 => hru i h1 (by omega))
      refine ⟨⟨b + 1, by omega, by omega⟩, by simp; omega, th [] 14, rfl, rfl, rfl, rfl, rfl, rfl, ?_, ?_⟩
      · (repeat' first | exact trivial | exact rfl | refine And.intro ?_ ?_)
        exact (wrap_nat b (by omega)).symm
      · (repeat' first | exact trivial | exact rfl | refine And.intro ?_ ?_)
        show rtab S.length (mbx C S Hs (Wl C s gp) gp (b + 1)) = ((rtab S.length (mbx C S Hs (Wl C s gp) gp b)).set b (sY (tp C S Hs gp a) ((rtab S.length (mbx C S Hs (Wl C s gp) gp b)).getD b []))).set b (sH (at' Hs (0 + b)) (((rtab S.length (mbx C S Hs (Wl C s gp) gp b)).set b (sY (tp C S Hs gp a) ((rtab S.length (mbx C S Hs (Wl C s gp) gp b)).getD b []))).getD b []))
        rw [Nat.zero_add]
        exact (box_set (by omega) et).symm
    have hbl := of_decide_eq_false (show decide ((b : Int) < (u : Int)) = false from g)
    have e : u = b := by omega
    subst e
    intro _
    have hrb := hr_bd (C := C) (S := S) S.length (ro C S a) hmk
    refine ⟨⟨u, hu, hB⟩, by simp; omega, th [] 14, rfl, rfl, rfl, rfl, rfl, rfl, ?_, ?_⟩
    · (repeat' first | exact trivial | exact rfl | refine And.intro ?_ ?_)
    · (repeat' first | exact trivial | exact rfl | refine And.intro ?_ ?_)
      show En C S Hs gp u = IntKind.i64.wrap (tp C S Hs gp a + (((mfind m (((cl C S).1.getD a []).getD 0 (D.n 0)).int).getD [D.n 0]).getD 0 (.n 0)).int)
      rw [eRa, hm, En_row hau hru]
      exact (wrapS _ ⟨by omega, by omega⟩).symm
  have g : decide ((((cl C S).1.getD a []).getD 0 (D.n 0)).int > 0) = false := g
  rw [eRa] at g
  have g := of_decide_eq_false g
  have ha0 : a = 0 := by
    rcases Nat.eq_zero_or_pos a with e | e
    · exact e
    · have h1 := hb e han
      have h2 := (ro_bd hC (k := a - 1) (fun i hi => hU.2.2 i (by omega))).1
      omega
  have eY : En C S Hs gp a = tp C S Hs gp a := by subst ha0; rfl
  intro _
  refine loop2 tt_ok [26] [10, 4] 14 (fun b : { b : Nat // a ≤ b ∧ b ≤ u } => [(26, .int .i64 (b : Nat))]) (fun b => [(10, .cells [.int .i64 (tp C S Hs gp a)]), (4, .arr [.int .i64, .int .i64, .int .i64, .int .i64, .int .i64, .bool, .nils] .grow (.recs (rtab S.length (mbx C S Hs (Wl C s gp) gp b))))]) (fun b => u - b) ⟨a, by omega, by omega⟩ ?_
  intro _
  refine ⟨⟨th [] 14, rfl, rfl, rfl, rfl, rfl, rfl, ?_, ?_⟩, ?_⟩
  · (repeat' first | exact trivial | exact rfl | refine And.intro ?_ ?_)
  · (repeat' first | exact trivial | exact rfl | refine And.intro ?_ ?_)
    exact eY.symm
  intro ⟨b, hab, hbu⟩
  intro _; refine ⟨fun g => ?_, fun g => ?_⟩
  · have hbl := of_decide_eq_true (show decide ((b : Int) < (u : Int)) = true from g)
    intro _; refine ⟨show 0 ≤ (b : Int) ∧ (b : Int) < (Hs.length : Int) by omega, ?_⟩
    intro _; refine ⟨show 0 + (b : Int).toNat < Hs.length by omega, ?_⟩
    intro _; refine ⟨show 0 ≤ (b : Int) ∧ (b : Int) < ((ac C S s gp).1.length : Int) by rw [aL]; omega, ?_⟩
    intro _; refine ⟨show (b : Int).toNat < List.length (rtab S.length (mbx C S Hs (Wl C s gp) gp b)) by rw [rtab_len]; omega, ?_⟩
    intro _; refine ⟨show 0 ≤ (b : Int) ∧ (b : Int) < ((ac C S s gp).1.length : Int) by rw [aL]; omega, ?_⟩
    intro _; refine ⟨show (b : Int).toNat < List.length (List.set _ _ _) by rw [List.length_set, rtab_len]; omega, ?_⟩
    intro _; refine ⟨by kernel_rfl, ?_⟩
    have et : tp C S Hs gp b = tp C S Hs gp a := tp_row b hab (fun i h1 h2 => hru i h1 (by omega))
    refine ⟨⟨b + 1, by omega, by omega⟩, by simp; omega, th [] 14, rfl, rfl, rfl, rfl, rfl, rfl, ?_, ?_⟩
    · (repeat' first | exact trivial | exact rfl | refine And.intro ?_ ?_)
      exact (wrap_nat b (by omega)).symm
    · (repeat' first | exact trivial | exact rfl | refine And.intro ?_ ?_)
      show rtab S.length (mbx C S Hs (Wl C s gp) gp (b + 1)) = ((rtab S.length (mbx C S Hs (Wl C s gp) gp b)).set b (sY (tp C S Hs gp a) ((rtab S.length (mbx C S Hs (Wl C s gp) gp b)).getD b []))).set b (sH (at' Hs (0 + b)) (((rtab S.length (mbx C S Hs (Wl C s gp) gp b)).set b (sY (tp C S Hs gp a) ((rtab S.length (mbx C S Hs (Wl C s gp) gp b)).getD b []))).getD b []))
      rw [Nat.zero_add]
      exact (box_set (by omega) et).symm
  have hbl := of_decide_eq_false (show decide ((b : Int) < (u : Int)) = false from g)
  have e : u = b := by omega
  subst e
  intro _
  have hrb := hr_bd (C := C) (S := S) S.length (ro C S a) hmk
  refine ⟨⟨u, hu, hB⟩, by simp; omega, th [] 14, rfl, rfl, rfl, rfl, rfl, rfl, ?_, ?_⟩
  · (repeat' first | exact trivial | exact rfl | refine And.intro ?_ ?_)
  · (repeat' first | exact trivial | exact rfl | refine And.intro ?_ ?_)
    show En C S Hs gp u = IntKind.i64.wrap (tp C S Hs gp a + (((mfind m (((cl C S).1.getD a []).getD 0 (D.n 0)).int).getD [D.n 0]).getD 0 (.n 0)).int)
    rw [eRa, hm, En_row hau hru]
    exact (wrapS _ ⟨by omega, by omega⟩).symm
def wd (C : Int) (S : List Int) (s gp : Int) : List Int × Int := if (cl C S).2 ≠ 0 then ([], (cl C S).2) else if ShOk (colsL C) s gp then (tab S.length (bW C S (Wl C s gp) gp), 0) else ([], 1)
def WdQ (C : Int) (S : List Int) (s gp : Int) : V → H → Prop := fun v h' => v = .tup [.grw 1 (wd C S s gp).1.length, .int .i64 (wd C S s gp).2] ∧ h' = ⟨2, 1, [(1, .arr [.int .i64] .grow (.ints (wd C S s gp).1))]⟩
theorem ro_mono {C : Int} {S : List Int} : ∀ {i j : Nat}, i ≤ j → ro C S i ≤ ro C S j
  | i, 0, h => by rw [show i = 0 by omega]; exact Int.le_refl _
  | i, j + 1, h => by
    by_cases e : i = j + 1
    · rw [e]; exact Int.le_refl _
    · have := ro_mono (C := C) (S := S) (show i ≤ j by omega)
      rcases cel_next C S j with h | h <;> rw [h.1] <;> omega
theorem hr_none {C : Int} {S Hs : List Int} {r : Int} : ∀ {k : Nat}, (∀ i, i < k → ro C S i ≠ r) → hr C S Hs k r = 0
  | 0, _ => rfl
  | k + 1, h => by
    simp only [hr]
    rw [if_neg (h k (by omega))]
    exact hr_none (fun i hi => h i (by omega))
theorem hr_rest {C : Int} {S Hs : List Int} {r : Int} {k : Nat} : ∀ {n : Nat}, k ≤ n → (∀ i, k ≤ i → i < n → ro C S i ≠ r) → hr C S Hs n r = hr C S Hs k r
  | 0, h, _ => by rw [show k = 0 by omega]
  | n + 1, h, hn => by
    by_cases e : k = n + 1
    · rw [e]
    · simp only [hr]
      rw [if_neg (hn n (by omega) (by omega))]
      exact hr_rest (by omega) (fun i h1 h2 => hn i h1 (by omega))
/-- how far the items before this one reach -/
def ek (C : Int) (S Hs : List Int) (gp : Int) : Nat → Int
  | 0 => 0
  | k + 1 => tp C S Hs gp k + hr C S Hs (k + 1) (ro C S k)
def ab (C : Int) (S Hs : List Int) (gp : Int) : Nat → Int
  | 0 => 0
  | k + 1 => tp C S Hs gp k
theorem ek_end {C : Int} {S Hs : List Int} {gp : Int} : ek C S Hs gp S.length = En C S Hs gp S.length := by
  cases h : S.length with
  | zero => rfl
  | succ n => simp only [ek, En, h]
theorem ek_same {C : Int} {S Hs : List Int} {gp : Int} {k : Nat} (hk : 0 < k) (e : ro C S k = ro C S (k - 1)) : ab C S Hs gp k = tp C S Hs gp k ∧ ek C S Hs gp (k + 1) = max (ek C S Hs gp k) (tp C S Hs gp k + at' Hs k) := by
  obtain ⟨b, rfl⟩ : ∃ b, k = b + 1 := ⟨k - 1, by omega⟩
  have e : ro C S (b + 1) = ro C S b := e
  have e1 : tp C S Hs gp (b + 1) = tp C S Hs gp b := by simp only [tp]; rw [if_pos e]
  refine ⟨by rw [e1]; rfl, ?_⟩
  have e2 : hr C S Hs (b + 1 + 1) (ro C S (b + 1)) = max (hr C S Hs (b + 1) (ro C S b)) (at' Hs (b + 1)) := by
    show (if ro C S (b + 1) = ro C S (b + 1) then _ else _) = _
    rw [if_pos rfl, e]
  show tp C S Hs gp (b + 1) + hr C S Hs (b + 1 + 1) (ro C S (b + 1)) = max (tp C S Hs gp b + hr C S Hs (b + 1) (ro C S b)) _
  rw [e2, e1]; omega
theorem ek_new {C : Int} {S Hs : List Int} {gp : Int} {k : Nat} (hk : 0 < k) (hn : k ≤ S.length) (hh : 0 ≤ at' Hs k) (e : ro C S k ≠ ro C S (k - 1)) : ek C S Hs gp k + gp = tp C S Hs gp k ∧ ek C S Hs gp (k + 1) = max (tp C S Hs gp k) (tp C S Hs gp k + at' Hs k) := by
  obtain ⟨b, rfl⟩ : ∃ b, k = b + 1 := ⟨k - 1, by omega⟩
  have e : ro C S (b + 1) ≠ ro C S b := e
  have hlt : ro C S b < ro C S (b + 1) := by
    have := ro_mono (C := C) (S := S) (show b ≤ b + 1 by omega)
    omega
  have e1 : tp C S Hs gp (b + 1) = tp C S Hs gp b + hr C S Hs S.length (ro C S b) + gp := by simp only [tp]; rw [if_neg e]
  have e3 : hr C S Hs S.length (ro C S b) = hr C S Hs (b + 1) (ro C S b) := hr_rest hn (fun i h1 _ he => by
    have := ro_mono (C := C) (S := S) h1
    omega)
  refine ⟨?_, ?_⟩
  · show tp C S Hs gp b + hr C S Hs (b + 1) (ro C S b) + gp = _
    rw [e1, e3]
  · have e2 : hr C S Hs (b + 1 + 1) (ro C S (b + 1)) = max (hr C S Hs (b + 1) (ro C S (b + 1))) (at' Hs (b + 1)) := by
      show (if ro C S (b + 1) = ro C S (b + 1) then _ else _) = _
      rw [if_pos rfl]
    have e4 : hr C S Hs (b + 1) (ro C S (b + 1)) = 0 := hr_none (fun i hi he => by
      have := ro_mono (C := C) (S := S) (show i ≤ b by omega)
      omega)
    show tp C S Hs gp (b + 1) + hr C S Hs (b + 1 + 1) (ro C S (b + 1)) = _
    rw [e2, e4]; omega
theorem ek_first {C : Int} {S Hs : List Int} {gp : Int} : ek C S Hs gp (0 + 1) = max 0 (0 + at' Hs 0) := by
  show tp C S Hs gp 0 + hr C S Hs 1 (ro C S 0) = _
  simp [tp, hr]
theorem pl_zero {C : Int} {S Hs : List Int} {s gp : Int} (h : (pl C S Hs s gp).2.2 = 0) : SpOk C S ∧ ShOk (colsL C) s gp ∧ Hs.length = S.length ∧ HOk S.length Hs ∧ En C S Hs gp S.length ≤ 1000000000 ∧ pl C S Hs s gp = (rtab S.length (pbx C S Hs (Wl C s gp) gp), En C S Hs gp S.length, 0) := by
  unfold pl at h ⊢
  by_cases g : (ac C S s gp).2 ≠ 0
  · rw [if_pos g] at h; exact absurd h g
  · rw [if_neg g] at h ⊢
    obtain ⟨k1, k2, _⟩ := ac_zero (s := s) (gp := gp) (Classical.not_not.1 g)
    by_cases g2 : Hs.length = S.length ∧ HOk S.length Hs
    · rw [if_pos g2] at h ⊢
      by_cases g3 : En C S Hs gp S.length > 1000000000
      · rw [if_pos g3] at h; simp at h
      · rw [if_neg g3]
        exact ⟨k1, k2, g2.1, g2.2, by omega, rfl⟩
    · rw [if_neg g2] at h; simp at h
theorem pl_bad {C : Int} {S Hs : List Int} {s gp : Int} (h : (pl C S Hs s gp).2.2 ≠ 0) : (pl C S Hs s gp).1 = [] := by
  unfold pl at h ⊢
  by_cases g : (ac C S s gp).2 ≠ 0
  · rw [if_pos g]
  · rw [if_neg g] at h ⊢
    by_cases g2 : Hs.length = S.length ∧ HOk S.length Hs
    · rw [if_pos g2] at h ⊢
      by_cases g3 : En C S Hs gp S.length > 1000000000
      · rw [if_pos g3]
      · rw [if_neg g3] at h; exact absurd rfl h
    · rw [if_neg g2]
theorem wd_ac {C : Int} {S : List Int} {s gp : Int} : ((ac C S s gp).2 ≠ 0 → wd C S s gp = ([], (ac C S s gp).2)) ∧ ((ac C S s gp).2 = 0 → wd C S s gp = (tab S.length (bW C S (Wl C s gp) gp), 0)) := by
  unfold wd ac
  by_cases g : (cl C S).2 ≠ 0
  · rw [if_pos g, if_pos g]; exact ⟨fun _ => rfl, fun h => absurd h g⟩
  · rw [if_neg g, if_neg g]
    by_cases g2 : ShOk (colsL C) s gp
    · rw [if_pos g2, if_pos g2]; exact ⟨fun h => absurd rfl h, fun _ => rfl⟩
    · rw [if_neg g2, if_neg g2]; exact ⟨fun _ => rfl, fun h => by simp at h⟩
theorem widths_ok (C : Int) (S : List Int) (s gp : Int) (hl : S.length ≤ 9223372036854775807) : SemF Try.prog 32 [.int .i64 C, .slc 0 1 0 S.length, .int .i64 s, .int .i64 gp] ⟨1, 1, [(0, .arr [.int .i64] .rd (.ints S))]⟩ (WdQ C S s gp) := by
  refine SemF.ret ?_
  refine enter tt_ok Try.func32 (nt := 39) (cd := body Try.f32) rfl rfl rfl rfl ?_
  have bad : ∀ e : Int, wd C S s gp = ([], e) → ∀ nx hx, Nat.ble 1 nx = true → Ret 1 (WdQ C S s gp) (.tup [.nils, .int .i64 e]) ⟨nx, 1, hx⟩ := fun e e1 nx hx hn => by
    refine ⟨[(1, none)], .tup [.grw 1 0, .int .i64 e], ⟨2, 1, [(1, .arr [.int .i64] .grow (.ints []))]⟩, rfl, rfl, rfl, rfl, ?_, ?_, ?_, ?_⟩
    · (repeat' first | exact trivial | exact rfl | refine And.intro ?_ ?_)
    · (repeat' first | exact trivial | exact rfl | refine And.intro ?_ ?_)
    · rw [e1]; rfl
    · rw [e1]
  intro _
  refine call_new [(0, some 0)] (across_ok C S s gp hl) rfl rfl rfl rfl ?_ ?_ ?_
  · (repeat' first | exact trivial | exact rfl | refine And.intro ?_ ?_)
  · (repeat' first | exact trivial | exact rfl | refine And.intro ?_ ?_)
  intro v h' hv
  obtain ⟨rfl, rfl⟩ := hv
  refine ⟨[(1, some 1)], 2, [(1, .arr [.int .i64, .int .i64, .int .i64, .int .i64, .int .i64, .bool, .nils] .grow (.recs (ac C S s gp).1))], .tup [.grw 1 (ac C S s gp).1.length, .int .i64 (ac C S s gp).2], rfl, rfl, rfl, rfl, rfl, ?_, ?_, ?_⟩
  · (repeat' first | exact trivial | exact rfl | refine And.intro ?_ ?_)
  · (repeat' first | exact trivial | exact rfl | refine And.intro ?_ ?_)
  intro _; refine ⟨fun g => ?_, fun g => ?_⟩
  · have g : ((ac C S s gp).2 != 0) = true := g
    have g : (ac C S s gp).2 ≠ 0 := by simpa using g
    intro _
    exact bad _ (wd_ac.1 g) _ _ rfl
  have g : ((ac C S s gp).2 != 0) = false := g
  have g0 : (ac C S s gp).2 = 0 := by simpa using g
  obtain ⟨hU, hS, eA⟩ := ac_zero g0
  have eW := wd_ac.2 g0
  have h4 := hU.1
  have aL : List.length (ac C S s gp).1 = S.length := by rw [eA]; exact rtab_len _ _
  intro _
  refine loop2 tt_ok [28, 12] [2] 3 (fun k : Fin (S.length + 1) => [(28, .int .i64 (k : Nat)), (12, .grw 2 (k : Nat))]) (fun k => [(2, .arr [.int .i64] .grow (.ints (tab (k : Nat) (bW C S (Wl C s gp) gp))))]) (fun k => S.length - k) ⟨0, by omega⟩ ?_
  intro _
  refine ⟨⟨th [(2, none)] 3, rfl, rfl, rfl, rfl, rfl, rfl, ?_, ?_⟩, ?_⟩
  · (repeat' first | exact trivial | exact rfl | refine And.intro ?_ ?_)
  · (repeat' first | exact trivial | exact rfl | refine And.intro ?_ ?_)
  intro ⟨k, hk⟩
  intro _; refine ⟨fun g => ?_, fun g => ?_⟩
  rotate_left
  · have g : decide ((k : Int) < ((ac C S s gp).1.length : Int)) = false := g
    rw [aL] at g
    have hkl := of_decide_eq_false g
    have hkl : k = S.length := by omega
    subst hkl
    intro _
    refine ⟨[(1, some 2)], .tup [.grw 1 (wd C S s gp).1.length, .int .i64 (wd C S s gp).2], ⟨2, 1, [(1, .arr [.int .i64] .grow (.ints (wd C S s gp).1))]⟩, rfl, rfl, rfl, rfl, ?_, ?_, ⟨rfl, rfl⟩⟩
    · rw [eW]
      (repeat' first | exact trivial | exact rfl | refine And.intro ?_ ?_)
      exact tab_len _ _
    · rw [eW]
      (repeat' first | exact trivial | exact rfl | refine And.intro ?_ ?_)
  have g : decide ((k : Int) < ((ac C S s gp).1.length : Int)) = true := g
  rw [aL] at g
  have hkl := of_decide_eq_true g
  intro _; refine ⟨show 0 ≤ (k : Int) ∧ (k : Int) < ((ac C S s gp).1.length : Int) by rw [aL]; omega, ?_⟩
  intro _; refine ⟨show (k : Int).toNat < List.length (ac C S s gp).1 by rw [aL]; omega, ?_⟩
  intro _; refine ⟨rfl, ?_⟩
  intro _; refine ⟨fun g3 => by simp at g3, fun _ => ?_⟩
  refine ⟨⟨(tab_len k _).symm, show k + 1 ≤ 4611686018427387904 by omega, show (k + 1) * 8 ≤ 70368744177664 by omega⟩, ?_⟩
  refine ⟨⟨k + 1, by omega⟩, by simp; omega, th [(2, some 5)] 3, rfl, rfl, rfl, rfl, rfl, rfl, ?_, ?_⟩
  · (repeat' first | exact trivial | exact rfl | refine And.intro ?_ ?_)
    exact (wrap_nat k (by omega)).symm
  · (repeat' first | exact trivial | exact rfl | refine And.intro ?_ ?_)
    show tab (k + 1) (bW C S (Wl C s gp) gp) = tab k (bW C S (Wl C s gp) gp) ++ [(((ac C S s gp).1.getD k []).getD 3 (D.n 0)).int]
    rw [tab_app, eA]
    show _ = _ ++ [(((rtab S.length (abx C S (Wl C s gp) gp)).getD k []).getD 3 (D.n 0)).int]
    rw [rtab_get _ (by omega)]
    rfl
theorem boxes_same (L : Rows) (hl : L.length ≤ 9223372036854775807) : SemF Try.prog 37 [.slc 0 7 0 L.length, .slc 1 7 0 L.length] ⟨2, 2, [(0, .arr [.int .i64, .int .i64, .int .i64, .int .i64, .int .i64, .bool, .nils] .rd (.recs L)), (1, .arr [.int .i64, .int .i64, .int .i64, .int .i64, .int .i64, .bool, .nils] .rd (.recs L))]⟩ (fun v _ => v = .bool true ∧ nameless v = true) := by
  refine enter tt_ok Try.func37 (nt := 67) (cd := body Try.f37) rfl rfl rfl rfl ?_
  intro _; refine ⟨fun g => ?_, fun _ => ?_⟩
  · exfalso
    have g : ((L.length : Int) != (L.length : Int)) = true := g
    simp at g
  intro _
  refine loop2 tt_ok [5] [] 2 (fun k : Fin (L.length + 1) => [(5, .int .i64 (k : Nat))]) (fun _ => []) (fun k => L.length - k) ⟨0, by omega⟩ ?_
  intro _
  refine ⟨⟨th [] 2, rfl, rfl, rfl, rfl, rfl, rfl, ?_, ?_⟩, ?_⟩
  · (repeat' first | exact trivial | exact rfl | refine And.intro ?_ ?_)
  · (repeat' first | exact trivial | exact rfl | refine And.intro ?_ ?_)
  intro ⟨k, hk⟩
  intro _; refine ⟨fun g => ?_, fun g => ?_⟩
  · have hkl := of_decide_eq_true (show decide ((k : Int) < (L.length : Int)) = true from g)
    have i1 : 0 ≤ (k : Int) ∧ (k : Int) < (L.length : Int) := by omega
    have i2 : 0 + (k : Int).toNat < L.length := by omega
    have no : ∀ x : Int, (x != x) = true → False := fun x h => by simp at h
    intro _; refine ⟨i1, ?_⟩
    intro _; refine ⟨i2, ?_⟩
    intro _; refine ⟨i1, ?_⟩
    intro _; refine ⟨i2, ?_⟩
    intro _; refine ⟨fun g => (no _ g).elim, fun _ => ?_⟩
    intro _; refine ⟨i1, ?_⟩
    intro _; refine ⟨i2, ?_⟩
    intro _; refine ⟨i1, ?_⟩
    intro _; refine ⟨i2, ?_⟩
    intro _; refine ⟨fun g => (no _ g).elim, fun _ => ?_⟩
    intro _; refine ⟨i1, ?_⟩
    intro _; refine ⟨i2, ?_⟩
    intro _; refine ⟨i1, ?_⟩
    intro _; refine ⟨i2, ?_⟩
    intro _; refine ⟨fun g => (no _ g).elim, fun _ => ?_⟩
    intro _; refine ⟨i1, ?_⟩
    intro _; refine ⟨i2, ?_⟩
    intro _; refine ⟨i1, ?_⟩
    intro _; refine ⟨i2, ?_⟩
    intro _; refine ⟨by kernel_rfl, ?_⟩
    intro _; refine ⟨fun g => (no _ g).elim, fun _ => ?_⟩
    refine ⟨⟨k + 1, by omega⟩, by simp; omega, th [] 2, rfl, rfl, rfl, rfl, rfl, rfl, ?_, ?_⟩
    · (repeat' first | exact trivial | exact rfl | refine And.intro ?_ ?_)
      exact (wrap_nat k (by omega)).symm
    · (repeat' first | exact trivial | exact rfl | refine And.intro ?_ ?_)
  · intro _
    exact ⟨rfl, rfl⟩
theorem same_all (a b : List Int) (ha : a.length ≤ 9223372036854775807) (hb : b.length ≤ 9223372036854775807) : SemF Try.prog 34 [.slc 0 1 0 a.length, .slc 1 1 0 b.length] ⟨2, 2, [(0, .arr [.int .i64] .rd (.ints a)), (1, .arr [.int .i64] .rd (.ints b))]⟩
    (fun v _ => v = .bool (decide (a = b)) ∧ nameless v = true) := by
  refine enter tt_ok Try.func34 (nt := 26) (cd := body Try.f34) rfl rfl rfl rfl ?_
  intro _; refine ⟨fun g => ?_, fun g => ?_⟩
  · intro _
    refine ⟨?_, rfl⟩
    have g : ((a.length : Int) != (b.length : Int)) = true := g
    have : a ≠ b := fun e => by subst e; simp at g
    rw [decide_eq_false this]
  have hab : a.length = b.length := by
    have g : ((a.length : Int) != (b.length : Int)) = false := g
    have g2 := g; simp at g2; omega
  intro _
  refine loop2 tt_ok [5] [] 2 (fun k : { k : Nat // k ≤ a.length ∧ ∀ i, i < k → a.getD i 0 = b.getD i 0 } => [(5, .int .i64 k)]) (fun _ => []) (fun k => a.length - k) ⟨0, by omega, fun i h => by omega⟩ ?_
  intro _
  refine ⟨⟨th [] 2, rfl, rfl, rfl, rfl, rfl, rfl, ?_, ?_⟩, ?_⟩
  · (repeat' first | exact trivial | exact rfl | refine And.intro ?_ ?_)
  · (repeat' first | exact trivial | exact rfl | refine And.intro ?_ ?_)
  · intro ⟨k, hk, hmk⟩
    intro _; refine ⟨fun g => ?_, fun g => ?_⟩
    · have hkl : k < a.length := by simp at g; omega
      have e0 : 0 + ((k : Int)).toNat = k := by omega
      intro _; refine ⟨by simp; omega, ?_⟩
      intro _; refine ⟨by simp [AC.len]; omega, ?_⟩
      intro _; refine ⟨by simp; omega, ?_⟩
      intro _; refine ⟨by simp [AC.len]; omega, ?_⟩
      intro _; refine ⟨by kernel_rfl, ?_⟩
      intro _; refine ⟨fun g2 => ?_, fun g2 => ?_⟩
      · have g2 : (a.getD (0 + ((k : Int)).toNat) 0 != b.getD (0 + ((k : Int)).toNat) 0) = true := g2
        rw [e0] at g2
        intro _
        refine ⟨?_, rfl⟩
        have : a ≠ b := fun e => by subst e; simp at g2
        rw [decide_eq_false this]
      · have g2 : (a.getD (0 + ((k : Int)).toNat) 0 != b.getD (0 + ((k : Int)).toNat) 0) = false := g2
        rw [e0] at g2
        refine ⟨⟨k + 1, by omega, fun i hi => ?_⟩, by simp; omega, th [] 2, rfl, rfl, rfl, rfl, rfl, rfl, ?_, ?_⟩
        · by_cases e : i = k
          · subst e; simpa using g2
          · exact hmk i (by omega)
        · (repeat' first | exact trivial | exact rfl | refine And.intro ?_ ?_)
          exact (wrap_nat k (by omega)).symm
        · (repeat' first | exact trivial | exact rfl | refine And.intro ?_ ?_)
    · have hkl : k = a.length := by simp at g; omega
      subst hkl
      intro _
      refine ⟨?_, rfl⟩
      have : a = b := by
        refine List.ext_getElem hab (fun i h1 h2 => ?_)
        have := hmk i h1
        rw [List.getD_eq_getElem?_getD, List.getD_eq_getElem?_getD, List.getElem?_eq_getElem h1, List.getElem?_eq_getElem h2] at this
        exact this
      rw [decide_eq_true this]
theorem cells_same (L : Rows) (hl : L.length ≤ 9223372036854775807) : SemF Try.prog 31 [.slc 0 2 0 L.length, .slc 1 2 0 L.length] ⟨2, 2, [(0, .arr [.int .i64, .int .i64] .rd (.recs L)), (1, .arr [.int .i64, .int .i64] .rd (.recs L))]⟩ (fun v _ => v = .bool true ∧ nameless v = true) := by
  refine enter tt_ok Try.func31 (nt := 26) (cd := body Try.f31) rfl rfl rfl rfl ?_
  intro _; refine ⟨fun g => ?_, fun _ => ?_⟩
  · exfalso
    have g : ((L.length : Int) != (L.length : Int)) = true := g
    simp at g
  intro _
  refine loop2 tt_ok [5] [] 2 (fun k : Fin (L.length + 1) => [(5, .int .i64 (k : Nat))]) (fun _ => []) (fun k => L.length - k) ⟨0, by omega⟩ ?_
  intro _
  refine ⟨⟨th [] 2, rfl, rfl, rfl, rfl, rfl, rfl, ?_, ?_⟩, ?_⟩
  · (repeat' first | exact trivial | exact rfl | refine And.intro ?_ ?_)
  · (repeat' first | exact trivial | exact rfl | refine And.intro ?_ ?_)
  intro ⟨k, hk⟩
  intro _; refine ⟨fun g => ?_, fun g => ?_⟩
  · have hkl := of_decide_eq_true (show decide ((k : Int) < (L.length : Int)) = true from g)
    have i1 : 0 ≤ (k : Int) ∧ (k : Int) < (L.length : Int) := by omega
    have i2 : 0 + (k : Int).toNat < L.length := by omega
    intro _; refine ⟨i1, ?_⟩
    intro _; refine ⟨i2, ?_⟩
    intro _; refine ⟨i1, ?_⟩
    intro _; refine ⟨i2, ?_⟩
    intro _; refine ⟨by kernel_rfl, ?_⟩
    intro _; refine ⟨fun g => ?_, fun _ => ?_⟩
    · exfalso
      have g : (!(((((L.getD (0 + k) []).getD 0 (D.n 0)).int) == (((L.getD (0 + k) []).getD 0 (D.n 0)).int)) && ((((L.getD (0 + k) []).getD 1 (D.n 0)).int) == (((L.getD (0 + k) []).getD 1 (D.n 0)).int)))) = true := g
      simp at g
    refine ⟨⟨k + 1, by omega⟩, by simp; omega, th [] 2, rfl, rfl, rfl, rfl, rfl, rfl, ?_, ?_⟩
    · (repeat' first | exact trivial | exact rfl | refine And.intro ?_ ?_)
      exact (wrap_nat k (by omega)).symm
    · (repeat' first | exact trivial | exact rfl | refine And.intro ?_ ?_)
  · intro _
    exact ⟨rfl, rfl⟩
def apre (n : Nat) : AC → AC
  | .ints l => .ints (l.take n)
  | .recs l => .recs (l.take n)
theorem rowAV_len : ∀ (ks : List CK) (j : Nat) (ds : List D), (rowAV ks j ds).length = ks.length
  | [], _, _ => rfl
  | c :: ks, j, ds => by simp [rowAV, rowAV_len ks (j + 1) ds]
theorem flat_take {g : List D → List Go.Vm.AV} {z : Nat} (hg : ∀ d, (g d).length = z) : ∀ (l : List (List D)) (n : Nat), n ≤ l.length → (l.flatMap g).take (n * z) = (l.take n).flatMap g
  | [], n, h => by
    have : n = 0 := by simpa using h
    subst this; simp
  | d :: l, 0, h => by simp
  | d :: l, n + 1, h => by
    have ih := flat_take hg l n (by simpa using h)
    simp only [List.flatMap_cons, List.take_succ_cons]
    have e : (n + 1) * z = (g d).length + n * z := by rw [hg, Nat.add_mul]; omega
    rw [e, List.take_length_add_append, ih]
theorem avs_take {ks : List CK} {a : AC} {n : Nat} (hk : ksOk ks a) (h : n ≤ a.len) : (a.avs ks).take (n * ks.length) = (apre n a).avs ks := by
  cases a with
  | ints l =>
    obtain ⟨k, rfl⟩ := hk
    simp only [AC.avs, apre, List.length_singleton, Nat.mul_one, List.map_take]
  | recs l =>
    simp only [AC.avs, apre]
    exact flat_take (fun d => rowAV_len ks 0 d) l n h
theorem apre_len {a : AC} {n : Nat} (h : n ≤ a.len) : (apre n a).len = n := by
  cases a <;> simp [apre, AC.len] at h ⊢ <;> omega
theorem row_pre {ks : List CK} {a : AC} {n B b0 : Nat} {r : Go.Vm.AO} (hk : ksOk ks a) (h : n ≤ a.len) (hr : RowOk .rd ks a B b0 r) : RowOk .rd ks (apre n a) B b0 r := by
  cases r <;> simp only [RowOk] at hr ⊢
  obtain ⟨h1, h2, h3⟩ := hr
  have hm : n * ks.length ≤ a.len * ks.length := Nat.mul_le_mul_right _ h
  refine ⟨h1, by rw [apre_len h]; omega, ?_⟩
  rw [apre_len h, ← avs_take hk h, ← h3, List.take_take]
  congr 1
  omega
def Pre (o o' : Ob) : Prop := o = o' ∨ ∃ ks a n, n ≤ a.len ∧ o = .arr ks .rd (apre n a) ∧ o' = .arr ks .rd a
theorem Pre.own {o o' : Ob} (h : Pre o o') : o.own = o'.own := by
  rcases h with rfl | ⟨ks, a, n, _, rfl, rfl⟩ <;> rfl
theorem Pre.live {o o' : Ob} (h : Pre o o') : o.live = o'.live := by
  rcases h with rfl | ⟨ks, a, n, _, rfl, rfl⟩ <;> rfl
theorem Pre.held {o o' : Ob} {n x : Nat} {ν : Nu} {g : Nat → Option Go.Vm.AO} (h : Pre o o') (hh : Go.Vm2.Held n ν x o' g) : Go.Vm2.Held n ν x o g := by
  rcases h with rfl | ⟨ks, a, m, hm, rfl, rfl⟩
  · exact hh
  · simp only [Go.Vm2.Held] at hh ⊢
    obtain ⟨k1, k2⟩ := hh
    refine ⟨?_, ?_⟩
    · cases a <;> exact k1
    · rcases k2 with ⟨k2, k3⟩ | ⟨B, b0, r, k2, k3, k4⟩
      · exact .inl ⟨k2, by rw [apre_len hm]; omega⟩
      · exact .inr ⟨B, b0, r, k2, k3, row_pre k1 hm k4⟩
theorem weak {fid : FuncId} {args : List V} {h h0 : H} {K : V → H → Prop} (hs : SemF Try.prog fid args h0 K) (hnx : h0.nx = h.nx) (hfz : h0.fz = h.fz) (hw : ∀ x o, h0.get x = some o → ∃ o', h.get x = some o' ∧ Pre o o') : SemF Try.prog fid args h K := by
  refine ⟨fun c ν s aa hR hA => ?_⟩
  have hR0 : R c ν h0 s := {
    ok := hR.ok
    obj := fun x o ho => by
      obtain ⟨o', h1, h2⟩ := hw x o ho
      rw [hnx]; exact h2.held (hR.obj x o' h1)
    lt := fun x o ho => by
      obtain ⟨o', h1, h2⟩ := hw x o ho
      rw [hnx]; exact hR.lt x o' h1
    sep := fun x y o o' B B' b b' hxy ho ho' hf hown hlive => by
      obtain ⟨p, h1, h2⟩ := hw x o ho
      obtain ⟨p', h3, h4⟩ := hw y o' ho'
      exact hR.sep x y p p' B B' b b' hxy h1 h3 (by rw [← hfz]; exact hf) (by rw [← h2.own]; exact hown) (by rw [← h4.live]; exact hlive)
    gsep := fun x o B b b' ho hf hown => by
      obtain ⟨p, h1, h2⟩ := hw x o ho
      exact hR.gsep x p B b b' h1 (by rw [← hfz]; exact hf) (by rw [← h2.own]; exact hown)
    froz := hR.froz
    kin := hR.kin
    th := fun D hD => by
      obtain ⟨k1, k2, k3, k4⟩ := hR.th D hD
      refine ⟨k1, k2, k3, fun x o B b ho hf hown => ?_⟩
      obtain ⟨p, h1, h2⟩ := hw x o ho
      exact k4 x p B b h1 (by rw [← hfz]; exact hf) (by rw [← h2.own]; exact hown)
    tc := hR.tc
    p_le := by rw [hnx]; exact hR.p_le
    lo_le := hR.lo_le
    new := fun x B b h1 h2 => hR.new x B b h1 (by rw [← hnx]; exact h2)
    blk := fun x B b h1 => hR.blk x B b (by rw [← hnx]; exact h1)
    snap := hR.snap }
  obtain ⟨N, a, s', v, h', ν', r1, r2, r3, r4, r5⟩ := hs.run c ν s aa hR0 (by rw [hnx]; exact hA)
  exact ⟨N, a, s', v, h', ν', r1, r2, r3, r4, ⟨fun x hx => r5.same x (by rw [hnx]; exact hx), by rw [← hnx]; exact r5.nx, by rw [← hfz]; exact r5.fz, r5.n, fun x B b h1 h2 => r5.new x B b (by rw [hnx]; exact h1) h2⟩⟩
theorem take_get {L : List Int} {n i : Nat} (h : i < n) : at' (L.take n) i = at' L i := by
  unfold at'; rw [List.getD_eq_getElem?_getD, List.getD_eq_getElem?_getD, List.getElem?_take_of_lt h]
theorem take_len {L : List Int} {n : Nat} (h : n ≤ L.length) : (L.take n).length = n := by simp; omega
theorem pre_sp {C : Int} {S : List Int} {n : Nat} (hn : n ≤ S.length) (h : SpOk C S) : SpOk C (S.take n) := by
  refine ⟨by rw [take_len hn]; have := h.1; omega, h.2.1, fun i hi => ?_⟩
  rw [take_len hn] at hi
  rw [take_get hi]; exact h.2.2 i (by omega)
theorem pre_nx {C : Int} {S : List Int} {n : Nat} : ∀ k, k ≤ n → nx C (S.take n) k = nx C S k
  | 0, _ => rfl
  | k + 1, hk => by
    have ih := pre_nx (C := C) (S := S) (n := n) k (by omega)
    simp only [nx]
    rw [ih, take_get (by omega)]
theorem pre_cel {C : Int} {S : List Int} {n k : Nat} (hk : k < n) : cel C (S.take n) k = cel C S k := by
  unfold cel; rw [pre_nx k (by omega), take_get hk]
theorem rtab_take {m n : Nat} (h : n ≤ m) (f : Nat → List D) : (rtab m f).take n = rtab n f := by
  unfold rtab; rw [← List.map_take, List.take_range]; congr 2; omega
theorem tab_take {m n : Nat} (h : n ≤ m) (f : Nat → Int) : (tab m f).take n = tab n f := by
  unfold tab; rw [← List.map_take, List.take_range]; congr 2; omega
theorem pre_cl {C : Int} {S : List Int} {n : Nat} (hn : n ≤ S.length) (h : SpOk C S) : cl C (S.take n) = ((cl C S).1.take n, 0) := by
  rw [cl_ok (pre_sp hn h), cl_ok h]
  show (_, _) = ((rtab S.length (crow C S)).take n, (0 : Int))
  rw [rtab_take hn, take_len hn]
  congr 1
  exact rtab_ext (fun i hi => by unfold crow; rw [pre_cel hi])
theorem pre_bX {C : Int} {S W : List Int} {gp : Int} {n i : Nat} (hi : i < n) : bX C (S.take n) W gp i = bX C S W gp i ∧ bW C (S.take n) W gp i = bW C S W gp i := by
  unfold bX bW; rw [pre_cel hi, take_get hi]; exact ⟨rfl, rfl⟩
theorem ac_err {C : Int} {S : List Int} {s gp : Int} (h : SpOk C S) : (ac C S s gp).2 = if ShOk (colsL C) s gp then 0 else 1 := by
  have e1 := cl_ok h
  unfold ac
  rw [if_neg (by rw [e1]; simp)]
  split <;> rfl
theorem pre_ac {C : Int} {S : List Int} {s gp : Int} {n : Nat} (hn : n ≤ S.length) (h : SpOk C S) : (ac C (S.take n) s gp).2 = (ac C S s gp).2 := by
  rw [ac_err h, ac_err (pre_sp hn h)]
theorem pre_wd {C : Int} {S : List Int} {s gp : Int} {n : Nat} (hn : n ≤ S.length) (h : SpOk C S) : (wd C (S.take n) s gp).2 = (wd C S s gp).2 ∧ ((wd C S s gp).2 = 0 → (wd C S s gp).1.length = S.length ∧ (wd C (S.take n) s gp).1 = (wd C S s gp).1.take n) := by
  have e := pre_ac (s := s) (gp := gp) hn h
  by_cases g : (ac C S s gp).2 = 0
  · rw [wd_ac.2 g, wd_ac.2 (by rw [e]; exact g)]
    refine ⟨rfl, fun _ => ⟨tab_len _ _, ?_⟩⟩
    show tab (S.take n).length _ = (tab S.length _).take n
    rw [tab_take hn, take_len hn]
    unfold tab
    exact List.map_congr_left (fun i hi => (pre_bX (List.mem_range.1 hi)).2)
  · have g2 : (ac C (S.take n) s gp).2 ≠ 0 := by rw [e]; exact g
    rw [wd_ac.1 g, wd_ac.1 g2]
    exact ⟨e, fun h => absurd h g⟩
theorem pre_hr {C : Int} {S Hs : List Int} {n : Nat} : ∀ k r, k ≤ n → hr C (S.take n) (Hs.take n) k r = hr C S Hs k r
  | 0, _, _ => rfl
  | k + 1, r, hk => by
    have e : ro C (S.take n) k = ro C S k := by unfold ro; rw [pre_cel (by omega)]
    simp only [hr]
    rw [e, pre_hr k r (by omega), take_get (by omega)]
theorem pre_tp {C : Int} {S Hs : List Int} {gp : Int} {n : Nat} (hn : n ≤ S.length) : ∀ k, k < n → tp C (S.take n) (Hs.take n) gp k = tp C S Hs gp k
  | 0, _ => rfl
  | k + 1, hk => by
    have e1 : ro C (S.take n) k = ro C S k := by unfold ro; rw [pre_cel (by omega)]
    have e2 : ro C (S.take n) (k + 1) = ro C S (k + 1) := by unfold ro; rw [pre_cel hk]
    simp only [tp]
    rw [e1, e2, pre_tp hn k (by omega), take_len hn]
    by_cases e : ro C S (k + 1) = ro C S k
    · rw [if_pos e, if_pos e]
    · rw [if_neg e, if_neg e, pre_hr n _ (Nat.le_refl _)]
      have hlt : ro C S k < ro C S (k + 1) := by
        have := ro_mono (C := C) (S := S) (show k ≤ k + 1 by omega)
        omega
      have hgt : ∀ m i, k + 1 ≤ i → i < m → ro C S i ≠ ro C S k := fun m i h1 _ he => by
        have := ro_mono (C := C) (S := S) h1
        omega
      rw [hr_rest (k := k + 1) (n := n) (by omega) (hgt n), hr_rest (k := k + 1) (n := S.length) (by omega) (hgt S.length)]
theorem ek_step {C : Int} {S Hs : List Int} {gp : Int} (hg : 0 ≤ gp) (hH : HOk S.length Hs) {k : Nat} (hk : k < S.length) : ek C S Hs gp k ≤ ek C S Hs gp (k + 1) := by
  have hh := hH k hk
  by_cases h0 : k = 0
  · subst h0; rw [ek_first]; show (0 : Int) ≤ _; omega
  · by_cases e : ro C S k = ro C S (k - 1)
    · rw [(ek_same (Hs := Hs) (gp := gp) (by omega) e).2]; omega
    · obtain ⟨a, b⟩ := ek_new (Hs := Hs) (gp := gp) (by omega) (by omega) hh.1 e
      rw [b]; omega
theorem ek_mono {C : Int} {S Hs : List Int} {gp : Int} (hg : 0 ≤ gp) (hH : HOk S.length Hs) {i : Nat} : ∀ {j : Nat}, i ≤ j → j ≤ S.length → ek C S Hs gp i ≤ ek C S Hs gp j
  | 0, h, _ => by rw [show i = 0 by omega]; exact Int.le_refl _
  | j + 1, h, hj => by
    by_cases e : i = j + 1
    · rw [e]; exact Int.le_refl _
    · have := ek_mono (C := C) hg hH (show i ≤ j by omega) (by omega)
      have := ek_step (C := C) hg hH (show j < S.length by omega)
      omega
theorem pre_En {C : Int} {S Hs : List Int} {gp : Int} {n : Nat} (hn : n ≤ S.length) : En C (S.take n) (Hs.take n) gp n = ek C S Hs gp n := by
  cases n with
  | zero => rfl
  | succ m =>
    have e1 : ro C (S.take (m + 1)) m = ro C S m := by unfold ro; rw [pre_cel (by omega)]
    simp only [En, ek]
    rw [e1, pre_tp hn m (by omega), take_len hn, pre_hr (m + 1) _ (Nat.le_refl _)]
theorem pre_pl {C : Int} {S Hs : List Int} {s gp : Int} {n : Nat} (hn : n ≤ S.length) (h : (pl C S Hs s gp).2.2 = 0) : (pl C (S.take n) (Hs.take n) s gp).2.2 = 0 ∧ (pl C S Hs s gp).1.length = S.length ∧ (pl C (S.take n) (Hs.take n) s gp).1 = (pl C S Hs s gp).1.take n := by
  obtain ⟨hU, hS, hL, hH, hE, eP⟩ := pl_zero h
  have e1 := pre_En (C := C) (Hs := Hs) (gp := gp) hn
  have e2 := ek_mono (C := C) (gp := gp) hS.2.2.1 hH hn (Nat.le_refl _)
  rw [ek_end] at e2
  have e3 : pl C (S.take n) (Hs.take n) s gp = (rtab n (pbx C (S.take n) (Hs.take n) (Wl C s gp) gp), En C (S.take n) (Hs.take n) gp n, 0) := by
    have a0 : (ac C (S.take n) s gp).2 = 0 := by
      have : (ac C S s gp).2 = 0 := by
        by_cases g : (ac C S s gp).2 = 0
        · exact g
        · unfold pl at h; rw [if_pos g] at h; exact absurd h g
      rw [pre_ac hn hU]; exact this
    unfold pl
    rw [if_neg (fun h => h a0), if_pos ⟨by rw [take_len hn, take_len (by omega)], fun i hi => by rw [take_len hn] at hi; rw [take_get hi]; exact hH i (by omega)⟩, take_len hn, if_neg (by omega)]
  rw [e3, eP]
  refine ⟨rfl, rtab_len _ _, ?_⟩
  show rtab n _ = (rtab S.length _).take n
  rw [rtab_take hn]
  exact rtab_ext (fun i hi => by unfold pbx; rw [(pre_bX hi).1, (pre_bX hi).2, pre_tp hn i hi, take_get hi])
def PreL : List (Nat × Ob) → List (Nat × Ob) → Prop
  | [], [] => True
  | (x, o) :: l0, (y, o') :: l => x = y ∧ Pre o o' ∧ PreL l0 l
  | _, _ => False
theorem pre_look : ∀ {l0 l : List (Nat × Ob)}, PreL l0 l → ∀ x o, Go.Vm2.look l0 x = some o → ∃ o', Go.Vm2.look l x = some o' ∧ Pre o o'
  | [], [], _, x, o, h => by simp [Go.Vm2.look] at h
  | (y, p) :: l0, (y', p') :: l, h, x, o, ho => by
    obtain ⟨e1, e2, e3⟩ := h
    subst e1
    rw [look_cons] at ho ⊢
    split at ho
    · rename_i e; cases ho; exact ⟨p', by rw [if_pos e], e2⟩
    · rename_i e; rw [if_neg e]; exact pre_look e3 x o ho
  | [], _ :: _, h, _, _, _ => h.elim
  | _ :: _, [], h, _, _, _ => h.elim
theorem cells_pre (C : Int) (S : List Int) (n : Nat) (hn : n ≤ S.length) (hl : S.length ≤ 9223372036854775807) : SemF Try.prog 29 [.int .i64 C, .slc 0 1 0 n] ⟨1, 1, [(0, .arr [.int .i64] .rd (.ints S))]⟩ (CQ C (S.take n)) := by
  have h := cells_ok C (S.take n) (by rw [take_len hn]; omega)
  rw [take_len hn] at h
  refine weak h rfl rfl ?_
  exact pre_look ⟨rfl, .inr ⟨_, .ints S, n, hn, rfl, rfl⟩, trivial⟩
theorem widths_pre (C : Int) (S : List Int) (s gp : Int) (n : Nat) (hn : n ≤ S.length) (hl : S.length ≤ 9223372036854775807) : SemF Try.prog 32 [.int .i64 C, .slc 0 1 0 n, .int .i64 s, .int .i64 gp] ⟨1, 1, [(0, .arr [.int .i64] .rd (.ints S))]⟩ (WdQ C (S.take n) s gp) := by
  have h := widths_ok C (S.take n) s gp (by rw [take_len hn]; omega)
  rw [take_len hn] at h
  refine weak h rfl rfl ?_
  exact pre_look ⟨rfl, .inr ⟨_, .ints S, n, hn, rfl, rfl⟩, trivial⟩
theorem place_pre (C : Int) (S Hs : List Int) (s gp : Int) (n : Nat) (hn : n ≤ S.length) (hn2 : n ≤ Hs.length) (hl : S.length ≤ 9223372036854775807) : SemF Try.prog 35 [.int .i64 C, .slc 0 1 0 n, .slc 1 1 0 n, .int .i64 s, .int .i64 gp] ⟨2, 2, [(0, .arr [.int .i64] .rd (.ints S)), (1, .arr [.int .i64] .rd (.ints Hs))]⟩ (PlQ C (S.take n) (Hs.take n) s gp) := by
  have h := place_ok C (S.take n) (Hs.take n) s gp (by rw [take_len hn]; omega) (by rw [take_len hn2]; omega)
  rw [take_len hn, take_len hn2] at h
  refine weak h rfl rfl ?_
  exact pre_look ⟨rfl, .inr ⟨_, .ints S, n, hn, rfl, rfl⟩, rfl, .inr ⟨_, .ints Hs, n, hn2, rfl, rfl⟩, trivial⟩
theorem len_take {L : Rows} {n : Nat} (h : n ≤ L.length) : (L.take n).length = n := by simp; omega
theorem cells_same_pre (L : Rows) (n : Nat) (hn : n ≤ L.length) (hl : L.length ≤ 9223372036854775807) : SemF Try.prog 31 [.slc 0 2 0 n, .slc 1 2 0 n] ⟨2, 2, [(0, .arr [.int .i64, .int .i64] .rd (.recs L)), (1, .arr [.int .i64, .int .i64] .rd (.recs (L.take n)))]⟩ (fun v _ => v = .bool true ∧ nameless v = true) := by
  have h := cells_same (L.take n) (by rw [len_take hn]; omega)
  rw [len_take hn] at h
  refine weak h rfl rfl ?_
  exact pre_look ⟨rfl, .inr ⟨_, .recs L, n, hn, rfl, rfl⟩, rfl, .inl rfl, trivial⟩
theorem boxes_same_pre (L : Rows) (n : Nat) (hn : n ≤ L.length) (hl : L.length ≤ 9223372036854775807) : SemF Try.prog 37 [.slc 0 7 0 n, .slc 1 7 0 n] ⟨2, 2, [(0, .arr [.int .i64, .int .i64, .int .i64, .int .i64, .int .i64, .bool, .nils] .rd (.recs L)), (1, .arr [.int .i64, .int .i64, .int .i64, .int .i64, .int .i64, .bool, .nils] .rd (.recs (L.take n)))]⟩ (fun v _ => v = .bool true ∧ nameless v = true) := by
  have h := boxes_same (L.take n) (by rw [len_take hn]; omega)
  rw [len_take hn] at h
  refine weak h rfl rfl ?_
  exact pre_look ⟨rfl, .inr ⟨_, .recs L, n, hn, rfl, rfl⟩, rfl, .inl rfl, trivial⟩
theorem ints_same_pre (L : List Int) (n : Nat) (hn : n ≤ L.length) (hl : L.length ≤ 9223372036854775807) : SemF Try.prog 34 [.slc 0 1 0 n, .slc 1 1 0 n] ⟨2, 2, [(0, .arr [.int .i64] .rd (.ints L)), (1, .arr [.int .i64] .rd (.ints (L.take n)))]⟩ (fun v _ => v = .bool true ∧ nameless v = true) := by
  have h := same_all (L.take n) (L.take n) (by rw [take_len hn]; omega) (by rw [take_len hn]; omega)
  rw [take_len hn, decide_eq_true rfl] at h
  refine weak h rfl rfl ?_
  exact pre_look ⟨rfl, .inr ⟨_, .ints L, n, hn, rfl, rfl⟩, rfl, .inl rfl, trivial⟩
set_option maxHeartbeats 4000000 in
theorem law11 (C : Int) (S Hs : List Int) (s gp m : Int) (hl : List.length S ≤ 9223372036854775807) (hh : List.length Hs ≤ 9223372036854775807) (hm : 0 ≤ m ∧ m ≤ 255) : SemF Try.prog 11 [.int .i64 C, .slc 0 1 0 S.length, .slc 1 1 0 Hs.length, .int .i64 s, .int .i64 gp, .int .u8 m] ⟨2, 2, [(0, .arr [.int .i64] .ro (.ints S)), (1, .arr [.int .i64] .ro (.ints Hs))]⟩ (fun v _ => IsTrue v) := by
  refine enter tt_ok Try.func11 (nt := 174) (cd := body Try.f11) rfl rfl rfl rfl ?_
  intro _
  refine head_ok rfl Try.func28 (cd := body Try.f28) rfl ?_
  intro _
  refine call_pure [(0, some 0)] (usable_ok C S hl) rfl rfl rfl ?_ ?_ ?_
  · (repeat' first | exact trivial | exact rfl | refine And.intro ?_ ?_)
  · (repeat' first | exact trivial | exact rfl | refine And.intro ?_ ?_)
  intro v hv _
  subst hv
  intro _; refine ⟨fun g => ?_, fun g => ?_⟩
  · intro _
    show true = true
    rfl
  have g : (!decide (Us C S)) = false := g
  rw [Bool.not_eq_false'] at g
  obtain ⟨h100, hU⟩ := of_decide_eq_true g
  intro _; refine ⟨fun g => ?_, fun g => ?_⟩
  · intro _
    show true = true
    rfl
  have g : ((Hs.length : Int) != (S.length : Int)) = false := g
  have hL : Hs.length = S.length := by
    have g2 : (Hs.length : Int) = (S.length : Int) := by simpa using g
    omega
  intro _; refine ⟨fun g => ?_, fun g => ?_⟩
  · intro _
    show true = true
    rfl
  have hpos : S.length ≠ 0 := by
    have g : ((S.length : Int) == 0) = false := g
    have g : (S.length : Int) ≠ 0 := by simpa using g
    omega
  have w1 : IntKind.i64.wrap ((S.length : Int) + 1) = (S.length : Int) + 1 := wrapS _ ⟨by omega, by omega⟩
  have w2 : IntKind.i64.wrap m = m := wrapS _ ⟨by omega, by omega⟩
  obtain ⟨n, eN, hn⟩ : ∃ n : Nat, (IntKind.i64.wrap m).tmod (IntKind.i64.wrap ((S.length : Int) + 1)) = (n : Int) ∧ n ≤ S.length := by
    rw [w1, w2, Int.tmod_eq_emod_of_nonneg (by omega)]
    have h1 := Int.emod_nonneg m (show (S.length : Int) + 1 ≠ 0 by omega)
    have h2 := Int.emod_lt_of_pos m (show (0 : Int) < (S.length : Int) + 1 by omega)
    exact ⟨(m % ((S.length : Int) + 1)).toNat, by omega, by omega⟩
  have e1 := cl_ok hU
  have e2 := pre_cl hn hU
  have eL : List.length (cl C S).1 = S.length := by rw [e1]; exact rtab_len _ _
  obtain ⟨f1, f2⟩ := pre_wd (s := s) (gp := gp) hn hU
  intro _; refine ⟨by rw [w1]; omega, ?_⟩
  rw [eN]
  intro _
  refine call_new [(0, some 0)] (cells_ok C S hl) rfl rfl rfl rfl ?_ ?_ ?_
  · (repeat' first | exact trivial | exact rfl | refine And.intro ?_ ?_)
  · (repeat' first | exact trivial | exact rfl | refine And.intro ?_ ?_)
  intro v h' hv
  obtain ⟨rfl, rfl⟩ := hv
  refine ⟨[(2, some 1)], 3, [(2, .arr [.int .i64, .int .i64] .grow (.recs (cl C S).1))], .tup [.grw 2 (cl C S).1.length, .int .i64 (cl C S).2], rfl, rfl, rfl, rfl, rfl, ?_, ?_, ?_⟩
  · (repeat' first | exact trivial | exact rfl | refine And.intro ?_ ?_)
  · (repeat' first | exact trivial | exact rfl | refine And.intro ?_ ?_)
  intro _; refine ⟨⟨by omega, by omega, show (n : Int) ≤ (S.length : Int) by omega⟩, ?_⟩
  intro _
  refine call_new [(0, some 0)] (cells_pre C S n hn hl) rfl rfl rfl rfl ?_ ?_ ?_
  · (repeat' first | exact trivial | exact rfl | refine And.intro ?_ ?_)
  · (repeat' first | exact trivial | exact rfl | refine And.intro ?_ ?_)
    skip
  intro v h' hv
  obtain ⟨rfl, rfl⟩ := hv
  refine ⟨[(3, some 1)], 4, [(3, .arr [.int .i64, .int .i64] .grow (.recs (cl C (S.take n)).1))], .tup [.grw 3 (cl C (S.take n)).1.length, .int .i64 (cl C (S.take n)).2], rfl, rfl, rfl, rfl, rfl, ?_, ?_, ?_⟩
  · (repeat' first | exact trivial | exact rfl | refine And.intro ?_ ?_)
  · (repeat' first | exact trivial | exact rfl | refine And.intro ?_ ?_)
  intro _; refine ⟨fun g => ?_, fun _ => ?_⟩
  · exfalso
    have g : ((cl C S).2 != 0) = true := g
    rw [e1] at g; simp at g
  intro _; refine ⟨fun g => ?_, fun _ => ?_⟩
  · exfalso
    have g : ((cl C (S.take n)).2 != 0) = true := g
    rw [e2] at g; simp at g
  intro _; refine ⟨fun g => ?_, fun _ => ?_⟩
  · exfalso
    have g : (((cl C S).1.length : Int) != (S.length : Int)) = true := g
    rw [eL] at g; simp at g
  intro _; refine ⟨⟨by omega, by omega, show (n : Int) ≤ ((cl C S).1.length : Int) by omega, show (0 : Int) < ((cl C S).1.length : Int) by omega⟩, ?_⟩
  intro _
  refine call_pure [(0, some 2), (1, some 3)] (cells_same_pre (cl C S).1 n (by rw [eL]; exact hn) (by rw [eL]; exact hl)) rfl rfl rfl ?_ ?_ ?_
  · (repeat' first | exact trivial | exact rfl | refine And.intro ?_ ?_)
    exact (congrArg Prod.fst e2).symm
  · (repeat' first | exact trivial | exact rfl | refine And.intro ?_ ?_)
    show n = List.length (cl C (S.take n)).1
    rw [e2]; exact (len_take (by rw [eL]; exact hn)).symm
  intro v hv _
  subst hv
  intro _
  refine call_new [(0, some 0)] (widths_ok C S s gp hl) rfl rfl rfl rfl ?_ ?_ ?_
  · (repeat' first | exact trivial | exact rfl | refine And.intro ?_ ?_)
  · (repeat' first | exact trivial | exact rfl | refine And.intro ?_ ?_)
  intro v h' hv
  obtain ⟨rfl, rfl⟩ := hv
  refine ⟨[(4, some 1)], 5, [(4, .arr [.int .i64] .grow (.ints (wd C S s gp).1))], .tup [.grw 4 (wd C S s gp).1.length, .int .i64 (wd C S s gp).2], rfl, rfl, rfl, rfl, rfl, ?_, ?_, ?_⟩
  · (repeat' first | exact trivial | exact rfl | refine And.intro ?_ ?_)
  · (repeat' first | exact trivial | exact rfl | refine And.intro ?_ ?_)
  intro _; refine ⟨⟨by omega, by omega, show (n : Int) ≤ (S.length : Int) by omega⟩, ?_⟩
  intro _
  refine call_new [(0, some 0)] (widths_pre C S s gp n hn hl) rfl rfl rfl rfl ?_ ?_ ?_
  · (repeat' first | exact trivial | exact rfl | refine And.intro ?_ ?_)
  · (repeat' first | exact trivial | exact rfl | refine And.intro ?_ ?_)
    skip
  intro v h' hv
  obtain ⟨rfl, rfl⟩ := hv
  refine ⟨[(5, some 1)], 6, [(5, .arr [.int .i64] .grow (.ints (wd C (S.take n) s gp).1))], .tup [.grw 5 (wd C (S.take n) s gp).1.length, .int .i64 (wd C (S.take n) s gp).2], rfl, rfl, rfl, rfl, rfl, ?_, ?_, ?_⟩
  · (repeat' first | exact trivial | exact rfl | refine And.intro ?_ ?_)
  · (repeat' first | exact trivial | exact rfl | refine And.intro ?_ ?_)
  intro _; refine ⟨fun g => ?_, fun _ => ?_⟩
  · exfalso
    have g : ((wd C S s gp).2 != (wd C (S.take n) s gp).2) = true := g
    rw [f1] at g; simp at g
  intro _; refine ⟨fun g => ?_, fun g => ?_⟩
  · have g : ((wd C S s gp).2 == 0) = true := g
    have g0 : (wd C S s gp).2 = 0 := by simpa using g
    obtain ⟨q1, q2⟩ := f2 g0
    intro _; refine ⟨fun g => ?_, fun _ => ?_⟩
    · exfalso
      have g : (((wd C S s gp).1.length : Int) != (S.length : Int)) = true := g
      rw [q1] at g; simp at g
    intro _; refine ⟨⟨by omega, by omega, show (n : Int) ≤ ((wd C S s gp).1.length : Int) by rw [q1]; omega, show (0 : Int) < ((wd C S s gp).1.length : Int) by rw [q1]; omega⟩, ?_⟩
    intro _
    refine call_pure [(0, some 4), (1, some 5)] (ints_same_pre (wd C S s gp).1 n (by rw [q1]; exact hn) (by rw [q1]; exact hl)) rfl rfl rfl ?_ ?_ ?_
    · (repeat' first | exact trivial | exact rfl | refine And.intro ?_ ?_)
      exact q2.symm
    · (repeat' first | exact trivial | exact rfl | refine And.intro ?_ ?_)
      show n = List.length (wd C (S.take n) s gp).1
      rw [q2, take_len (by rw [q1]; exact hn)]
    intro v hv _
    subst hv
    intro _
    refine call_new [(0, some 0), (1, some 1)] (place_ok C S Hs s gp hl hh) rfl rfl rfl rfl ?_ ?_ ?_
    · (repeat' first | exact trivial | exact rfl | refine And.intro ?_ ?_)
    · (repeat' first | exact trivial | exact rfl | refine And.intro ?_ ?_)
    intro v h' hv
    obtain ⟨rfl, rfl⟩ := hv
    refine ⟨[(6, some 2)], 7, [(6, .arr [.int .i64, .int .i64, .int .i64, .int .i64, .int .i64, .bool, .nils] .grow (.recs (pl C S Hs s gp).1))], .tup [.grw 6 (pl C S Hs s gp).1.length, .int .i64 (pl C S Hs s gp).2.1, .int .i64 (pl C S Hs s gp).2.2], rfl, rfl, rfl, rfl, rfl, ?_, ?_, ?_⟩
    · (repeat' first | exact trivial | exact rfl | refine And.intro ?_ ?_)
    · (repeat' first | exact trivial | exact rfl | refine And.intro ?_ ?_)
    intro _; refine ⟨⟨by omega, by omega, show (n : Int) ≤ (S.length : Int) by omega⟩, ?_⟩
    intro _; refine ⟨⟨by omega, by omega, show (n : Int) ≤ (Hs.length : Int) by omega⟩, ?_⟩
    intro _
    refine Or.inl ?_
    intro _
    refine call_new [(0, some 0), (1, some 1)] (place_pre C S Hs s gp n hn (by omega) hl) rfl rfl rfl rfl ?_ ?_ ?_
    · (repeat' first | exact trivial | exact rfl | refine And.intro ?_ ?_)
    · (repeat' first | exact trivial | exact rfl | refine And.intro ?_ ?_)
      skip
    intro v h' hv
    obtain ⟨rfl, rfl⟩ := hv
    refine ⟨[(7, some 2)], 8, [(7, .arr [.int .i64, .int .i64, .int .i64, .int .i64, .int .i64, .bool, .nils] .grow (.recs (pl C (S.take n) (Hs.take n) s gp).1))], .tup [.grw 7 (pl C (S.take n) (Hs.take n) s gp).1.length, .int .i64 (pl C (S.take n) (Hs.take n) s gp).2.1, .int .i64 (pl C (S.take n) (Hs.take n) s gp).2.2], rfl, rfl, rfl, rfl, rfl, ?_, ?_, ?_⟩
    · (repeat' first | exact trivial | exact rfl | refine And.intro ?_ ?_)
    · (repeat' first | exact trivial | exact rfl | refine And.intro ?_ ?_)
    intro _; refine ⟨by kernel_rfl, ?_⟩
    intro _; refine ⟨fun g => ?_, fun g => ?_⟩
    · intro _
      show true = true
      rfl
    have g : ((pl C S Hs s gp).2.2 != 0) = false := g
    have g0 : (pl C S Hs s gp).2.2 = 0 := by simpa using g
    obtain ⟨p1, p2, p3⟩ := pre_pl hn g0
    intro _; refine ⟨fun _ => ?_, fun g => ?_⟩
    rotate_left
    · exfalso
      have g : ((pl C (S.take n) (Hs.take n) s gp).2.2 == 0) = false := g
      rw [p1] at g; simp at g
    intro _; refine ⟨fun _ => ?_, fun g => ?_⟩
    rotate_left
    · exfalso
      have g : (((pl C S Hs s gp).1.length : Int) == (S.length : Int)) = false := g
      rw [p2] at g; simp at g
    intro _; refine ⟨⟨by omega, by omega, show (n : Int) ≤ ((pl C S Hs s gp).1.length : Int) by rw [p2]; omega, show (0 : Int) < ((pl C S Hs s gp).1.length : Int) by rw [p2]; omega⟩, ?_⟩
    intro _
    refine call_pure [(0, some 6), (1, some 7)] (boxes_same_pre (pl C S Hs s gp).1 n (by rw [p2]; exact hn) (by rw [p2]; exact hl)) rfl rfl rfl ?_ ?_ ?_
    · (repeat' first | exact trivial | exact rfl | refine And.intro ?_ ?_)
      exact p3.symm
    · (repeat' first | exact trivial | exact rfl | refine And.intro ?_ ?_)
      show n = List.length (pl C (S.take n) (Hs.take n) s gp).1
      rw [p3, len_take (by rw [p2]; exact hn)]
    intro v hv _
    subst hv
    intro _
    show true = true
    rfl
  intro _
  refine call_new [(0, some 0), (1, some 1)] (place_ok C S Hs s gp hl hh) rfl rfl rfl rfl ?_ ?_ ?_
  · (repeat' first | exact trivial | exact rfl | refine And.intro ?_ ?_)
  · (repeat' first | exact trivial | exact rfl | refine And.intro ?_ ?_)
  intro v h' hv
  obtain ⟨rfl, rfl⟩ := hv
  refine ⟨[(6, some 2)], 7, [(6, .arr [.int .i64, .int .i64, .int .i64, .int .i64, .int .i64, .bool, .nils] .grow (.recs (pl C S Hs s gp).1))], .tup [.grw 6 (pl C S Hs s gp).1.length, .int .i64 (pl C S Hs s gp).2.1, .int .i64 (pl C S Hs s gp).2.2], rfl, rfl, rfl, rfl, rfl, ?_, ?_, ?_⟩
  · (repeat' first | exact trivial | exact rfl | refine And.intro ?_ ?_)
  · (repeat' first | exact trivial | exact rfl | refine And.intro ?_ ?_)
  intro _; refine ⟨⟨by omega, by omega, show (n : Int) ≤ (S.length : Int) by omega⟩, ?_⟩
  intro _; refine ⟨⟨by omega, by omega, show (n : Int) ≤ (Hs.length : Int) by omega⟩, ?_⟩
  intro _
  refine Or.inl ?_
  intro _
  refine call_new [(0, some 0), (1, some 1)] (place_pre C S Hs s gp n hn (by omega) hl) rfl rfl rfl rfl ?_ ?_ ?_
  · (repeat' first | exact trivial | exact rfl | refine And.intro ?_ ?_)
  · (repeat' first | exact trivial | exact rfl | refine And.intro ?_ ?_)
    skip
  intro v h' hv
  obtain ⟨rfl, rfl⟩ := hv
  refine ⟨[(7, some 2)], 8, [(7, .arr [.int .i64, .int .i64, .int .i64, .int .i64, .int .i64, .bool, .nils] .grow (.recs (pl C (S.take n) (Hs.take n) s gp).1))], .tup [.grw 7 (pl C (S.take n) (Hs.take n) s gp).1.length, .int .i64 (pl C (S.take n) (Hs.take n) s gp).2.1, .int .i64 (pl C (S.take n) (Hs.take n) s gp).2.2], rfl, rfl, rfl, rfl, rfl, ?_, ?_, ?_⟩
  · (repeat' first | exact trivial | exact rfl | refine And.intro ?_ ?_)
  · (repeat' first | exact trivial | exact rfl | refine And.intro ?_ ?_)
  intro _; refine ⟨by kernel_rfl, ?_⟩
  intro _; refine ⟨fun g => ?_, fun g => ?_⟩
  · intro _
    show true = true
    rfl
  have g : ((pl C S Hs s gp).2.2 != 0) = false := g
  have g0 : (pl C S Hs s gp).2.2 = 0 := by simpa using g
  obtain ⟨p1, p2, p3⟩ := pre_pl hn g0
  intro _; refine ⟨fun _ => ?_, fun g => ?_⟩
  rotate_left
  · exfalso
    have g : ((pl C (S.take n) (Hs.take n) s gp).2.2 == 0) = false := g
    rw [p1] at g; simp at g
  intro _; refine ⟨fun _ => ?_, fun g => ?_⟩
  rotate_left
  · exfalso
    have g : (((pl C S Hs s gp).1.length : Int) == (S.length : Int)) = false := g
    rw [p2] at g; simp at g
  intro _; refine ⟨⟨by omega, by omega, show (n : Int) ≤ ((pl C S Hs s gp).1.length : Int) by rw [p2]; omega, show (0 : Int) < ((pl C S Hs s gp).1.length : Int) by rw [p2]; omega⟩, ?_⟩
  intro _
  refine call_pure [(0, some 6), (1, some 7)] (boxes_same_pre (pl C S Hs s gp).1 n (by rw [p2]; exact hn) (by rw [p2]; exact hl)) rfl rfl rfl ?_ ?_ ?_
  · (repeat' first | exact trivial | exact rfl | refine And.intro ?_ ?_)
    exact p3.symm
  · (repeat' first | exact trivial | exact rfl | refine And.intro ?_ ?_)
    show n = List.length (pl C (S.take n) (Hs.take n) s gp).1
    rw [p3, len_take (by rw [p2]; exact hn)]
  intro v hv _
  subst hv
  intro _
  show true = true
  rfl

theorem walk (w : World) (cn : Int) (w_cn : (Lit.int .i64 cn).wf = true) (v_xs : Value) (s_xs : Src) (xs : List Int) (cap_xs : Nat) (hk_xs : s_xs.ks = [.int .i64]) (ha_xs : s_xs.ac = .ints xs) (hs_xs : s_xs.lies w) (hn_xs : s_xs.at_ = none → xs.length = 0) (hc_xs : xs.length ≤ cap_xs) (hv_xs : v_xs = s_xs.val cap_xs) (hm_xs : xs.length ≤ maxLen) (w_xs : ∀ n ∈ xs, (Lit.int .i64 n).wf = true) (v_ys : Value) (s_ys : Src) (ys : List Int) (cap_ys : Nat) (hk_ys : s_ys.ks = [.int .i64]) (ha_ys : s_ys.ac = .ints ys) (hs_ys : s_ys.lies w) (hn_ys : s_ys.at_ = none → ys.length = 0) (hc_ys : ys.length ≤ cap_ys) (hv_ys : v_ys = s_ys.val cap_ys) (hm_ys : ys.length ≤ maxLen) (w_ys : ∀ n ∈ ys, (Lit.int .i64 n).wf = true) (spc : Int) (w_spc : (Lit.int .i64 spc).wf = true) (gap : Int) (w_gap : (Lit.int .i64 gap).wf = true) (mm : Int) (w_mm : (Lit.int .u8 mm).wf = true) :
    Calls Try.prog 11 #[.int .i64 cn, v_xs, v_ys, .int .i64 spc, .int .i64 gap, .int .u8 mm] w fun e w' => e = .returned (.bool true) ∧ Below w.heap.size w w' := by
  obtain ⟨at_xs, ks_xs, ac_xs⟩ := s_xs
  simp only [] at hk_xs ha_xs
  subst hk_xs ha_xs
  have h_xs : xs.length ≤ 9223372036854775807 := by unfold maxLen at hm_xs; omega
  obtain ⟨at_ys, ks_ys, ac_ys⟩ := s_ys
  simp only [] at hk_ys ha_ys
  subst hk_ys ha_ys
  have h_ys : ys.length ≤ 9223372036854775807 := by unfold maxLen at hm_ys; omega
  have b_cn := w_cn
  simp [Lit.wf, IntKind.min, IntKind.max, IntKind.signed, IntKind.bits] at b_cn
  have b_spc := w_spc
  simp [Lit.wf, IntKind.min, IntKind.max, IntKind.signed, IntKind.bits] at b_spc
  have b_gap := w_gap
  simp [Lit.wf, IntKind.min, IntKind.max, IntKind.signed, IntKind.bits] at b_gap
  have b_mm := w_mm
  simp [Lit.wf, IntKind.min, IntKind.max, IntKind.signed, IntKind.bits] at b_mm
  exact top_run (by kernel_rfl) (by kernel_rfl) (T := [28]) (fun f hf w => by
      rcases List.mem_cons.1 hf with e | e
      · subst e; exact head w
      · exact (List.not_mem_nil e).elim) (l := [⟨at_xs, [.int .i64], .ints xs⟩, ⟨at_ys, [.int .i64], .ints ys⟩]) (args := [.int .i64 cn, .slc 0 1 0 xs.length, .slc 1 1 0 ys.length, .int .i64 spc, .int .i64 gap, .int .u8 mm]) («as» := [.int .i64 cn, Src.av 0 cap_xs ⟨at_xs, [.int .i64], .ints xs⟩, Src.av 1 cap_ys ⟨at_ys, [.int .i64], .ints ys⟩, .int .i64 spc, .int .i64 gap, .int .u8 mm]) (cargs := [.int .i64 cn, v_xs, v_ys, .int .i64 spc, .int .i64 gap, .int .u8 mm]) w
    (fun s h => by
      rcases List.mem_cons.1 h with e | h
      · subst e; exact hs_xs
      · rcases List.mem_cons.1 h with e | h
        · subst e; exact hs_ys
        · exact (List.not_mem_nil h).elim)
    (Cvs.cons mk_int (Cvs.cons (src_cv (s := ⟨at_xs, [.int .i64], .ints xs⟩) rfl 1 hc_xs hn_xs) (Cvs.cons (src_cv (s := ⟨at_ys, [.int .i64], .ints ys⟩) rfl 1 hc_ys hn_ys) (Cvs.cons mk_int (Cvs.cons mk_int (Cvs.cons mk_int Cvs.nil))))))
    (by simp only [Go.Vm.convs, Go.Vm.conv]; rw [src_conv (j := 0) (s := ⟨at_xs, [.int .i64], .ints xs⟩) rfl, src_conv (j := 1) (s := ⟨at_ys, [.int .i64], .ints ys⟩) rfl, hv_xs, hv_ys])
    (law11 cn xs ys spc gap mm h_xs h_ys ⟨by omega, by omega⟩)

set_option maxRecDepth 100000 in
theorem lifted (os : Os) (started : os.Started) (H : Type) (enc : TypeId × Value → H) :
    ReturnsInHanded {} Try.checked os 11 .any (Rows.gridFirstSpec.pre6 enc Try.prog Try.f11 Rows.gridFirstRow.domain false) (Rows.gridFirstSpec.post enc Try.prog Try.f11 false true false false) := by
  refine returnsInHanded_of_change (C := Try.checked) own started (by kernel_rfl) Try.func11
    (ChangeSpec.witness6 (enc := enc) (C := Try.checked) false ⟨#[], #[.int .i64 0, .slice none 0 0, .slice none 0 0, .int .i64 0, .int .i64 0, .int .u8 0], []⟩ 8 (by kernel_rfl) (by kernel_rfl) (by kernel_rfl) (by kernel_rfl)) ?_
  intro W base args ds gs before hval0 hW hcnd _
  have hval : ∀ (j : Nat) t v, Try.f11.params[j]? = some t → args[j]? = some v → Value.okWide Try.prog W .any base t v := hval0
  have hW' := hW
  obtain ⟨p, q, hA0, hV, rfl, hfz, hnd⟩ := hW
  have hA : DataW.TrodAll enc Try.prog W 0 (fun _ => true) true Try.f11.params.toList args.toList ds p := hA0
  rw [Try.params11] at hA hval
  obtain ⟨v0, vs0, d0, ds0, p0, q0, hargs, rfl, rfl, h0, r0⟩ := trodAll_cons hA
  obtain ⟨v1, vs1, d1, ds1, p1, q1, rfl, rfl, rfl, h1, r1⟩ := trodAll_cons r0
  obtain ⟨v2, vs2, d2, ds2, p2, q2, rfl, rfl, rfl, h2, r2⟩ := trodAll_cons r1
  obtain ⟨v3, vs3, d3, ds3, p3, q3, rfl, rfl, rfl, h3, r3⟩ := trodAll_cons r2
  obtain ⟨v4, vs4, d4, ds4, p4, q4, rfl, rfl, rfl, h4, r4⟩ := trodAll_cons r3
  obtain ⟨v5, vs5, d5, ds5, p5, q5, rfl, rfl, rfl, h5, r5⟩ := trodAll_cons r4
  obtain ⟨rfl, rfl, rfl⟩ := trodAll_nil r5
  obtain rfl : args = #[v0, v1, v2, v3, v4, v5] := by cases args; simp_all
  obtain ⟨rfl, rfl⟩ := trodVars_none hV
  obtain ⟨cn, rfl, rfl, rfl, w_cn⟩ := open_int Try.underlying3 (hval 0 3 v0 rfl rfl) h0
  obtain ⟨s_xs, xs, cap_xs, hk_xs, ha_xs, hs_xs, hn_xs, hc_xs, hv_xs, hm_xs, w_xs⟩ := Go.Vm2.open_list Try.underlying50 Try.underlying3 (by kernel_rfl) (hval 1 50 v1 rfl rfl) h1
  have hlt1 : ∀ x ∈ p1, x.block < W.heap.size := fun x hx => by simpa using hW'.lt x (by simp [hx])
  obtain ⟨s_ys, ys, cap_ys, hk_ys, ha_ys, hs_ys, hn_ys, hc_ys, hv_ys, hm_ys, w_ys⟩ := Go.Vm2.open_list Try.underlying50 Try.underlying3 (by kernel_rfl) (hval 2 50 v2 rfl rfl) h2
  have hlt2 : ∀ x ∈ p2, x.block < W.heap.size := fun x hx => by simpa using hW'.lt x (by simp [hx])
  obtain ⟨spc, rfl, rfl, rfl, w_spc⟩ := open_int Try.underlying3 (hval 3 3 v3 rfl rfl) h3
  obtain ⟨gap, rfl, rfl, rfl, w_gap⟩ := open_int Try.underlying3 (hval 4 3 v4 rfl rfl) h4
  obtain ⟨mm, rfl, rfl, rfl, w_mm⟩ := open_int Try.underlying5 (hval 5 5 v5 rfl rfl) h5
  clear hA0 hval0
  refine (walk W cn w_cn v1 s_xs xs cap_xs hk_xs ha_xs hs_xs hn_xs hc_xs hv_xs hm_xs w_xs v2 s_ys ys cap_ys hk_ys ha_ys hs_ys hn_ys hc_ys hv_ys hm_ys w_ys spc w_spc gap w_gap mm w_mm).mono fun e W' ⟨he, hg⟩ => ?_
  subst he
  exact ⟨_, rfl, _, _, _, [], _, [], hW', trodAll_cons_mk (shut_bool Try.underlying4 _) trodAll_mk0, (trodAll_cons_mk (shut_int Try.underlying3 w_cn) (trodAll_cons_mk (Below.trod laidOut (by kernel_rfl) (of_decide_eq_true (by kernel_rfl)) h1 hg hlt1) (trodAll_cons_mk (Below.trod laidOut (by kernel_rfl) (of_decide_eq_true (by kernel_rfl)) h2 hg hlt2) (trodAll_cons_mk (shut_int Try.underlying3 w_spc) (trodAll_cons_mk (shut_int Try.underlying3 w_gap) (trodAll_cons_mk (shut_int Try.underlying5 w_mm) trodAll_mk0)))))), rfl, hg.frame _, fun h => by cases h⟩

theorem over : Rows.gridFirstRow.holds Try.pinned (OpenSpec.ofChange Rows.gridFirstSpec) :=
  OpenClaim.holds_of_wide 11 Try.f11 rfl rfl rfl rfl rfl rfl rfl ⟨rfl, rfl, rfl, rfl, rfl⟩ rfl rfl rfl rfl rfl (by kernel_rfl) Try.func11 (by kernel_rfl)
    (of_decide_eq_true (by kernel_rfl)) (by unfold Func.isWrapper; first | (rw [if_pos (by decide +kernel)]; kernel_rfl) | (rw [if_neg (by decide +kernel)]; exact ⟨rfl, rfl⟩))
    (fun os started H enc _ => lifted os started H enc)

/-- the statement -/
theorem proved : Rows.GridFirstSaid :=
  over
#print axioms proved
end Go.Proofs.Ytojkgickckchgab.gridFirst
