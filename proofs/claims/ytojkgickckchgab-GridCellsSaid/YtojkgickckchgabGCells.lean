/-
  GridCells: whatever the arguments, the law returns true, and its arguments read as before. No conditions.
-/
import Derived.Test.YtojkgickckchgabRows
import Derived.Test.YtojkgickckchgabVwOpen2
import Derived.Test.YtojkgickckchgabVwRules6
import Derived.Test.YtojkgickckchgabVmSym
import Derived.WalkKit
import Derived.ProofKit
import Derived.OpenShut
import Derived.Carry
namespace Go.Proofs.Ytojkgickckchgab.gridCells
open Go.ChangeShapes Go.WideShapes Go.ChangeAt Go.RowKit
open Go.Vm (Facts Val Sound)
open Go.Vm2
set_option linter.unusedVariables false
set_option linter.unusedSectionVars false

theorem own : ownKnob Try.prog.godebug = none := by kernel_rfl
theorem laidOut : laidOutB Try.prog = true := by kernel_rfl
def ts : List Nat := [22, 41, 25, 4, 26, 3, 36, 43, 37, 5, 50, 51, 65, 58, 69, 75, 78, 88, 67, 151, 96, 98, 104, 106, 109]
def tt : Go.Vm2.TT := [
  (22, ⟨(.slice 41 5 40 [.int .i64, .int .i64, .int .i64, .int .i64, .int .i64]), false, 1, .nils, true⟩),
  (41, ⟨(.struct [⟨0, 1, false⟩, ⟨1, 1, false⟩, ⟨2, 1, false⟩, ⟨3, 1, false⟩, ⟨4, 1, false⟩]), true, 5, .agg [.int .i64 (0), .int .i64 (0), .int .i64 (0), .int .i64 (0), .int .i64 (0)], true⟩),
  (25, ⟨(.struct [⟨0, 1, false⟩, ⟨1, 1, false⟩]), true, 2, .agg [.int .i64 (0), .int .i64 (0)], true⟩),
  (4, ⟨.bool, false, 1, .bool false, true⟩),
  (26, ⟨(.int .i64), false, 1, .int .i64 (0), true⟩),
  (3, ⟨(.int .i64), false, 1, .int .i64 (0), true⟩),
  (36, ⟨(.slice 43 4 8 [.int .u8, .int .u16, .int .u16, .int .u16]), false, 1, .nils, true⟩),
  (43, ⟨(.struct [⟨0, 1, false⟩, ⟨1, 1, false⟩, ⟨2, 1, false⟩, ⟨3, 1, false⟩]), true, 4, .agg [.int .u8 (0), .int .u16 (0), .int .u16 (0), .int .u16 (0)], true⟩),
  (37, ⟨(.int .u16), false, 1, .int .u16 (0), true⟩),
  (5, ⟨(.int .u8), false, 1, .int .u8 (0), true⟩),
  (50, ⟨(.slice 3 1 8 [.int .i64]), false, 1, .nils, true⟩),
  (51, ⟨(.slice 65 2 16 [.int .i64, .int .i64]), false, 1, .nils, true⟩),
  (65, ⟨(.array 2 3 1), true, 2, .agg [.int .i64 (0), .int .i64 (0)], true⟩),
  (58, ⟨(.slice 69 7 72 [.int .i64, .int .i64, .int .i64, .int .i64, .int .i64, .bool, .nils]), false, 1, .nils, true⟩),
  (69, ⟨(.struct [⟨0, 1, false⟩, ⟨1, 1, false⟩, ⟨2, 1, false⟩, ⟨3, 1, false⟩, ⟨4, 1, false⟩, ⟨5, 1, false⟩, ⟨6, 1, false⟩]), true, 7, .agg [.int .i64 (0), .int .i64 (0), .int .i64 (0), .int .i64 (0), .int .i64 (0), .bool false, .nils], false⟩),
  (75, ⟨(.struct [⟨0, 1, false⟩, ⟨1, 1, false⟩]), true, 2, .agg [.int .i64 (0), .int .i64 (0)], true⟩),
  (78, ⟨(.struct [⟨0, 5, true⟩]), true, 5, .agg [.int .i64 (0), .int .i64 (0), .int .i64 (0), .int .i64 (0), .int .i64 (0)], false⟩),
  (88, ⟨(.map .i64 3), false, 1, .nilm, true⟩),
  (67, ⟨(.slice 151 5 48 [.str, .int .i64, .int .i64, .int .i64, .int .i64]), false, 1, .nils, true⟩),
  (151, ⟨(.struct [⟨0, 1, false⟩, ⟨1, 1, false⟩, ⟨2, 1, false⟩, ⟨3, 1, false⟩, ⟨4, 1, false⟩]), true, 5, .agg [.str [], .int .i64 (0), .int .i64 (0), .int .i64 (0), .int .i64 (0)], true⟩),
  (96, ⟨(.slice 98 3 24 [.int .i64, .int .i64, .int .i64]), false, 1, .nils, true⟩),
  (98, ⟨(.struct [⟨0, 1, false⟩, ⟨1, 1, false⟩, ⟨2, 1, false⟩]), true, 3, .agg [.int .i64 (0), .int .i64 (0), .int .i64 (0)], true⟩),
  (104, ⟨(.int .u64), false, 1, .int .u64 (0), true⟩),
  (106, ⟨(.map .i64 4), false, 1, .nilm, true⟩),
  (109, ⟨(.slice 4 1 1 [.bool]), false, 1, .nils, true⟩)]
theorem tt_mk : mkTT Try.prog ts = some tt := by kernel_rfl
theorem head (w : World) : Calls Try.prog 28 #[] w fun e w' => e = .returned (.bool true) ∧ Below w.heap.size w w' :=
  Go.Vm.head_run (by kernel_rfl) (by kernel_rfl) (n := 1000000) (by kernel_rfl) w
instance facts : Facts := ⟨[], [28], false⟩
instance val : Val := ⟨fun _ => 0⟩
instance sound : Sound := ⟨fun f hf => (List.not_mem_nil hf).elim⟩
theorem tt_ok : TTok Try.prog tt := ttok_mk tt_mk
def body (f : Func) : Code := match f.body with | some c => c | none => .skip
set_option maxRecDepth 100000
theorem wrap_nat (k : Nat) (h : k < 9223372036854775807) : IntKind.i64.wrap ((k : Int) + 1) = ((k + 1 : Nat) : Int) := by
  rw [IntKind.wrap_i64]; omega
theorem wrapS (n : Int) (h : -9000000000000000000 ≤ n ∧ n ≤ 9000000000000000000) : IntKind.i64.wrap n = n := by rw [IntKind.wrap_i64]; omega
abbrev Rows := List (List D)
def rtab (n : Nat) (f : Nat → List D) : Rows := (List.range n).map f
theorem rtab_len (n : Nat) (f : Nat → List D) : List.length (rtab n f) = n := by simp [rtab]
theorem rtab_get {n : Nat} (f : Nat → List D) {i : Nat} (h : i < n) : (rtab n f).getD i [] = f i := by
  unfold rtab; rw [List.getD_eq_getElem?_getD, List.getElem?_map, List.getElem?_range h]; rfl
theorem rtab_app (k : Nat) (f : Nat → List D) : rtab (k + 1) f = rtab k f ++ [f k] := by
  unfold rtab; rw [List.range_succ, List.map_append]; rfl
def at' (L : List Int) (i : Nat) : Int := L.getD i 0
def cellOf (C s : Int) (p : Int × Int) : Int × Int := if p.2 + min s C > C then (p.1 + 1, 0) else p
def nx (C : Int) (S : List Int) : Nat → Int × Int
  | 0 => (0, 0)
  | k + 1 => ((cellOf C (at' S k) (nx C S k)).1, (cellOf C (at' S k) (nx C S k)).2 + min (at' S k) C)
def cel (C : Int) (S : List Int) (k : Nat) : Int × Int := cellOf C (at' S k) (nx C S k)
def crow (C : Int) (S : List Int) (k : Nat) : List D := [D.n (cel C S k).1, D.n (cel C S k).2]
def SpOk (C : Int) (S : List Int) : Prop := S.length ≤ 4000 ∧ (1 ≤ C ∧ C ≤ 64) ∧ ∀ i, i < S.length → 1 ≤ at' S i ∧ at' S i ≤ 64
instance decSpOk (C : Int) (S : List Int) : Decidable (SpOk C S) := inferInstanceAs (Decidable (_ ∧ _))
def cl (C : Int) (S : List Int) : Rows × Int := if 4000 < S.length then ([], 2) else if SpOk C S then (rtab S.length (crow C S), 0) else ([], 1)
theorem nx_bd {C : Int} {S : List Int} (hC : 1 ≤ C ∧ C ≤ 64) : ∀ k : Nat, (∀ i, i < k → 1 ≤ at' S i ∧ at' S i ≤ 64) → 0 ≤ (nx C S k).1 ∧ (nx C S k).1 ≤ k ∧ 0 ≤ (nx C S k).2 ∧ (nx C S k).2 ≤ C
  | 0, _ => by simp [nx]; omega
  | k + 1, h => by
    obtain ⟨a, b, c, d⟩ := nx_bd hC k (fun i hi => h i (by omega))
    have := h k (by omega)
    simp only [nx, cellOf]
    split
    · simp only []; omega
    · omega
theorem cel_bd {C : Int} {S : List Int} (hC : 1 ≤ C ∧ C ≤ 64) {k : Nat} (h : ∀ i, i < k + 1 → 1 ≤ at' S i ∧ at' S i ≤ 64) : 0 ≤ (cel C S k).1 ∧ (cel C S k).1 ≤ k + 1 ∧ 0 ≤ (cel C S k).2 ∧ (cel C S k).2 + min (at' S k) C ≤ C := by
  obtain ⟨a, b, c, d⟩ := nx_bd hC k (fun i hi => h i (by omega))
  have := h k (by omega)
  unfold cel cellOf
  split
  · simp only []; omega
  · omega
def CQ (C : Int) (S : List Int) : V → H → Prop := fun v h' => v = .tup [.grw 1 (cl C S).1.length, .int .i64 (cl C S).2] ∧ h' = ⟨2, 1, [(1, .arr [.int .i64, .int .i64] .grow (.recs (cl C S).1))]⟩
abbrev SI' (S : List Int) := { k : Nat // k ≤ S.length ∧ ∀ i, i < k → 1 ≤ at' S i ∧ at' S i ≤ 64 }
theorem sidx {S : List Int} {k : Nat} (hm : ∀ i, i < k → 1 ≤ at' S i ∧ at' S i ≤ 64) (h : 1 ≤ at' S k ∧ at' S k ≤ 64) : ∀ i, i < k + 1 → 1 ≤ at' S i ∧ at' S i ≤ 64 := fun i hi => by
  by_cases e : i = k
  · subst e; exact h
  · exact hm i (by omega)
theorem cells_ok (C : Int) (S : List Int) (hl : S.length ≤ 9223372036854775807) : SemF Try.prog 29 [.int .i64 C, .slc 0 1 0 S.length] ⟨1, 1, [(0, .arr [.int .i64] .rd (.ints S))]⟩ (CQ C S) := by
  refine SemF.ret ?_
  refine enter tt_ok Try.func29 (nt := 56) (cd := body Try.f29) rfl rfl rfl rfl ?_
  have out : ∀ e : Int, cl C S = ([], e) → ∀ nx hx, Nat.ble 1 nx = true → Ret 1 (CQ C S) (.tup [.nils, .int .i64 e]) ⟨nx, 1, hx⟩ := fun e e1 nx hx hn => by
    refine ⟨[(1, none)], .tup [.grw 1 0, .int .i64 e], ⟨2, 1, [(1, .arr [.int .i64, .int .i64] .grow (.recs []))]⟩, rfl, rfl, rfl, rfl, ?_, ?_, ?_, ?_⟩
    · (repeat' first | exact trivial | exact rfl | refine And.intro ?_ ?_)
    · (repeat' first | exact trivial | exact rfl | refine And.intro ?_ ?_)
    · rw [e1]; rfl
    · rw [e1]
  intro _; refine ⟨fun g => ?_, fun g => ?_⟩
  · have g := of_decide_eq_true (show decide ((S.length : Int) > 4000) = true from g)
    intro _
    exact out 2 (by unfold cl; rw [if_pos (by omega)]) _ _ rfl
  have g1 := of_decide_eq_false (show decide ((S.length : Int) > 4000) = false from g)
  have bad : ¬ SpOk C S → cl C S = ([], 1) := fun h => by unfold cl; rw [if_neg (by omega), if_neg h]
  intro _; refine ⟨fun g => ?_, fun g => ?_⟩
  · have g := of_decide_eq_true (show decide (C < 1) = true from g)
    intro _
    exact out 1 (bad (fun h => by have := h.2.1; omega)) _ _ rfl
  have g2 := of_decide_eq_false (show decide (C < 1) = false from g)
  intro _; refine ⟨fun g => ?_, fun g => ?_⟩
  · have g := of_decide_eq_true (show decide (C > 64) = true from g)
    intro _
    exact out 1 (bad (fun h => by have := h.2.1; omega)) _ _ rfl
  have g3 := of_decide_eq_false (show decide (C > 64) = false from g)
  have hC : 1 ≤ C ∧ C ≤ 64 := by omega
  intro _
  refine loop2 tt_ok [22, 6] [1, 2] 3 (fun k : SI' S => [(22, .int .i64 (k : Nat)), (6, .grw 2 (k : Nat))]) (fun k => [(1, .cells [.int .i64 (nx C S k).1, .int .i64 (nx C S k).2]), (2, .arr [.int .i64, .int .i64] .grow (.recs (rtab (k : Nat) (crow C S))))]) (fun k => S.length - k) ⟨0, by omega, fun i h => by omega⟩ ?_
  intro _
  refine ⟨⟨th [(2, none)] 3, rfl, rfl, rfl, rfl, rfl, rfl, ?_, ?_⟩, ?_⟩
  · (repeat' first | exact trivial | exact rfl | refine And.intro ?_ ?_)
  · (repeat' first | exact trivial | exact rfl | refine And.intro ?_ ?_)
  intro ⟨k, hk, hmk⟩
  have z : 0 + k = k := Nat.zero_add k
  intro _; refine ⟨fun g => ?_, fun g => ?_⟩
  · have hkl := of_decide_eq_true (show decide ((k : Int) < (S.length : Int)) = true from g)
    have hb := nx_bd hC k hmk
    intro _; refine ⟨show 0 ≤ (k : Int) ∧ (k : Int) < (S.length : Int) by omega, ?_⟩
    intro _; refine ⟨show 0 + (k : Int).toNat < S.length by omega, ?_⟩
    intro _; refine ⟨fun g => ?_, fun g => ?_⟩
    · have g : decide (at' S (0 + k) < 1) = true := g
      rw [z] at g
      have g := of_decide_eq_true g
      intro _
      exact out 1 (bad (fun h => by have := h.2.2 k (by omega); omega)) _ _ rfl
    have g : decide (at' S (0 + k) < 1) = false := g
    rw [z] at g
    have s1 := of_decide_eq_false g
    intro _; refine ⟨fun g => ?_, fun g => ?_⟩
    · have g : decide (at' S (0 + k) > 64) = true := g
      rw [z] at g
      have g := of_decide_eq_true g
      intro _
      exact out 1 (bad (fun h => by have := h.2.2 k (by omega); omega)) _ _ rfl
    have g : decide (at' S (0 + k) > 64) = false := g
    rw [z] at g
    have s2 := of_decide_eq_false g
    have ek := (wrap_nat k (by omega)).symm
    have eA : IntKind.i64.wrap ((nx C S k).2 + min (at' S (0 + k)) C) = (nx C S k).2 + min (at' S k) C := by rw [z]; exact wrapS _ ⟨by omega, by omega⟩
    intro _; refine ⟨fun g => ?_, fun g => ?_⟩
    · have g : decide (IntKind.i64.wrap ((nx C S k).2 + min (at' S (0 + k)) C) > C) = true := g
      rw [eA] at g
      have g := of_decide_eq_true g
      have e1 : cel C S k = ((nx C S k).1 + 1, 0) := by unfold cel cellOf; rw [if_pos g]
      have e2 : nx C S (k + 1) = ((nx C S k).1 + 1, 0 + min (at' S k) C) := by
        show ((cel C S k).1, (cel C S k).2 + min (at' S k) C) = _
        rw [e1]
      have w1 : IntKind.i64.wrap ((nx C S k).1 + 1) = (nx C S k).1 + 1 := wrapS _ ⟨by omega, by omega⟩
      intro _; refine ⟨rfl, ?_⟩
      intro _; refine ⟨fun g3 => by simp at g3, fun _ => ?_⟩
      refine ⟨⟨(rtab_len k _).symm, show k + 1 ≤ 4611686018427387904 by omega, show (k + 1) * 16 ≤ 70368744177664 by omega⟩, ?_⟩
      refine ⟨⟨k + 1, by omega, sidx hmk ⟨by omega, by omega⟩⟩, by simp; omega, th [(2, some 4)] 3, rfl, rfl, rfl, rfl, rfl, rfl, ?_, ?_⟩
      · (repeat' first | exact trivial | exact rfl | refine And.intro ?_ ?_)
        exact ek
      · (repeat' first | exact trivial | exact rfl | refine And.intro ?_ ?_)
        · show (nx C S (k + 1)).1 = IntKind.i64.wrap ((nx C S k).1 + 1)
          rw [e2, w1]
        · show (nx C S (k + 1)).2 = IntKind.i64.wrap (0 + min (at' S (0 + k)) C)
          rw [e2, z, wrapS _ ⟨by omega, by omega⟩]
        · show rtab (k + 1) (crow C S) = rtab k (crow C S) ++ [[D.n (IntKind.i64.wrap ((nx C S k).1 + 1)), D.n 0]]
          rw [rtab_app, w1]; unfold crow; rw [e1]
    · have g : decide (IntKind.i64.wrap ((nx C S k).2 + min (at' S (0 + k)) C) > C) = false := g
      rw [eA] at g
      have g := of_decide_eq_false g
      have e1 : cel C S k = nx C S k := by unfold cel cellOf; rw [if_neg g]
      have e2 : nx C S (k + 1) = ((nx C S k).1, (nx C S k).2 + min (at' S k) C) := by
        show ((cel C S k).1, (cel C S k).2 + min (at' S k) C) = _
        rw [e1]
      intro _; refine ⟨rfl, ?_⟩
      intro _; refine ⟨fun g3 => by simp at g3, fun _ => ?_⟩
      refine ⟨⟨(rtab_len k _).symm, show k + 1 ≤ 4611686018427387904 by omega, show (k + 1) * 16 ≤ 70368744177664 by omega⟩, ?_⟩
      refine ⟨⟨k + 1, by omega, sidx hmk ⟨by omega, by omega⟩⟩, by simp; omega, th [(2, some 4)] 3, rfl, rfl, rfl, rfl, rfl, rfl, ?_, ?_⟩
      · (repeat' first | exact trivial | exact rfl | refine And.intro ?_ ?_)
        exact ek
      · (repeat' first | exact trivial | exact rfl | refine And.intro ?_ ?_)
        · show (nx C S (k + 1)).1 = (nx C S k).1
          rw [e2]
        · show (nx C S (k + 1)).2 = IntKind.i64.wrap ((nx C S k).2 + min (at' S (0 + k)) C)
          rw [e2, eA]
        · show rtab (k + 1) (crow C S) = rtab k (crow C S) ++ [[D.n (nx C S k).1, D.n (nx C S k).2]]
          rw [rtab_app]; unfold crow; rw [e1]
  · have hkl := of_decide_eq_false (show decide ((k : Int) < (S.length : Int)) = false from g)
    have hkl : k = S.length := by omega
    subst hkl
    have e1 : cl C S = (rtab S.length (crow C S), 0) := by unfold cl; rw [if_neg (by omega), if_pos ⟨by omega, hC, hmk⟩]
    intro _
    refine ⟨[(1, some 2)], .tup [.grw 1 (cl C S).1.length, .int .i64 (cl C S).2], ⟨2, 1, [(1, .arr [.int .i64, .int .i64] .grow (.recs (cl C S).1))]⟩, rfl, rfl, rfl, rfl, ?_, ?_, ⟨rfl, rfl⟩⟩
    · rw [e1]
      (repeat' first | exact trivial | exact rfl | refine And.intro ?_ ?_)
      exact rtab_len _ _
    · rw [e1]
      (repeat' first | exact trivial | exact rfl | refine And.intro ?_ ?_)
theorem rcells_ok (C : Int) (S : List Int) (hl : S.length ≤ 9223372036854775807) : SemF Try.prog 30 [.int .i64 C, .slc 0 1 0 S.length] ⟨1, 1, [(0, .arr [.int .i64] .rd (.ints S))]⟩ (CQ C S) := by
  refine SemF.ret ?_
  refine enter tt_ok Try.func30 (nt := 61) (cd := body Try.f30) rfl rfl rfl rfl ?_
  have out : ∀ e : Int, cl C S = ([], e) → ∀ nx hx, Nat.ble 1 nx = true → Ret 1 (CQ C S) (.tup [.nils, .int .i64 e]) ⟨nx, 1, hx⟩ := fun e e1 nx hx hn => by
    refine ⟨[(1, none)], .tup [.grw 1 0, .int .i64 e], ⟨2, 1, [(1, .arr [.int .i64, .int .i64] .grow (.recs []))]⟩, rfl, rfl, rfl, rfl, ?_, ?_, ?_, ?_⟩
    · (repeat' first | exact trivial | exact rfl | refine And.intro ?_ ?_)
    · (repeat' first | exact trivial | exact rfl | refine And.intro ?_ ?_)
    · rw [e1]; rfl
    · rw [e1]
  intro _; refine ⟨fun g => ?_, fun g => ?_⟩
  · have g := of_decide_eq_true (show decide ((S.length : Int) > 4000) = true from g)
    intro _
    exact out 2 (by unfold cl; rw [if_pos (by omega)]) _ _ rfl
  have g1 := of_decide_eq_false (show decide ((S.length : Int) > 4000) = false from g)
  have bad : ¬ SpOk C S → cl C S = ([], 1) := fun h => by unfold cl; rw [if_neg (by omega), if_neg h]
  intro _; refine ⟨fun g => ?_, fun g => ?_⟩
  · have g := of_decide_eq_true (show decide (C < 1) = true from g)
    intro _
    exact out 1 (bad (fun h => by have := h.2.1; omega)) _ _ rfl
  have g2 := of_decide_eq_false (show decide (C < 1) = false from g)
  intro _; refine ⟨fun g => ?_, fun g => ?_⟩
  · have g := of_decide_eq_true (show decide (C > 64) = true from g)
    intro _
    exact out 1 (bad (fun h => by have := h.2.1; omega)) _ _ rfl
  have g3 := of_decide_eq_false (show decide (C > 64) = false from g)
  have hC : 1 ≤ C ∧ C ≤ 64 := by omega
  intro _
  refine loop2 tt_ok [9, 6, 7, 8] [1] 2 (fun k : SI' S => [(9, .int .i64 (k : Nat)), (6, .grw 1 (k : Nat)), (7, .int .i64 (nx C S k).1), (8, .int .i64 (nx C S k).2)]) (fun k => [(1, .arr [.int .i64, .int .i64] .grow (.recs (rtab (k : Nat) (crow C S))))]) (fun k => S.length - k) ⟨0, by omega, fun i h => by omega⟩ ?_
  intro _
  refine ⟨⟨th [(1, none)] 2, rfl, rfl, rfl, rfl, rfl, rfl, ?_, ?_⟩, ?_⟩
  · (repeat' first | exact trivial | exact rfl | refine And.intro ?_ ?_)
  · (repeat' first | exact trivial | exact rfl | refine And.intro ?_ ?_)
  intro ⟨k, hk, hmk⟩
  have z : 0 + k = k := Nat.zero_add k
  intro _; refine ⟨fun g => ?_, fun g => ?_⟩
  · have hkl := of_decide_eq_true (show decide ((k : Int) < (S.length : Int)) = true from g)
    have hb := nx_bd hC k hmk
    have i1 : 0 ≤ (k : Int) ∧ (k : Int) < (S.length : Int) := by omega
    have i2 : 0 + (k : Int).toNat < S.length := by omega
    intro _; refine ⟨i1, ?_⟩
    intro _; refine ⟨i2, ?_⟩
    intro _; refine ⟨fun g => ?_, fun g => ?_⟩
    · have g : decide (at' S (0 + k) < 1) = true := g
      rw [z] at g
      have g := of_decide_eq_true g
      intro _
      exact out 1 (bad (fun h => by have := h.2.2 k (by omega); omega)) _ _ rfl
    have g : decide (at' S (0 + k) < 1) = false := g
    rw [z] at g
    have s1 := of_decide_eq_false g
    intro _; refine ⟨i1, ?_⟩
    intro _; refine ⟨i2, ?_⟩
    intro _; refine ⟨fun g => ?_, fun g => ?_⟩
    · have g : decide (at' S (0 + k) > 64) = true := g
      rw [z] at g
      have g := of_decide_eq_true g
      intro _
      exact out 1 (bad (fun h => by have := h.2.2 k (by omega); omega)) _ _ rfl
    have g : decide (at' S (0 + k) > 64) = false := g
    rw [z] at g
    have s2 := of_decide_eq_false g
    have ek := (wrap_nat k (by omega)).symm
    have eA : IntKind.i64.wrap ((nx C S k).2 + min (at' S (0 + k)) C) = (nx C S k).2 + min (at' S k) C := by rw [z]; exact wrapS _ ⟨by omega, by omega⟩
    intro _; refine ⟨i1, ?_⟩
    intro _; refine ⟨i2, ?_⟩
    intro _; refine ⟨fun g => ?_, fun g => ?_⟩
    · have g : decide (IntKind.i64.wrap ((nx C S k).2 + min (at' S (0 + k)) C) > C) = true := g
      rw [eA] at g
      have g := of_decide_eq_true g
      have e1 : cel C S k = ((nx C S k).1 + 1, 0) := by unfold cel cellOf; rw [if_pos g]
      have e2 : nx C S (k + 1) = ((nx C S k).1 + 1, 0 + min (at' S k) C) := by
        show ((cel C S k).1, (cel C S k).2 + min (at' S k) C) = _
        rw [e1]
      have w1 : IntKind.i64.wrap ((nx C S k).1 + 1) = (nx C S k).1 + 1 := wrapS _ ⟨by omega, by omega⟩
      intro _; refine ⟨rfl, ?_⟩
      intro _; refine ⟨fun g3 => by simp at g3, fun _ => ?_⟩
      refine ⟨⟨(rtab_len k _).symm, show k + 1 ≤ 4611686018427387904 by omega, show (k + 1) * 16 ≤ 70368744177664 by omega⟩, ?_⟩
      refine ⟨⟨k + 1, by omega, sidx hmk ⟨by omega, by omega⟩⟩, by simp; omega, th [(1, some 3)] 2, rfl, rfl, rfl, rfl, rfl, rfl, ?_, ?_⟩
      · (repeat' first | exact trivial | exact rfl | refine And.intro ?_ ?_)
        · exact ek
        · show (nx C S (k + 1)).1 = IntKind.i64.wrap ((nx C S k).1 + 1)
          rw [e2, w1]
        · show (nx C S (k + 1)).2 = IntKind.i64.wrap (0 + min (at' S (0 + k)) C)
          rw [e2, z, wrapS _ ⟨by omega, by omega⟩]
      · (repeat' first | exact trivial | exact rfl | refine And.intro ?_ ?_)
        show rtab (k + 1) (crow C S) = rtab k (crow C S) ++ [[D.n (IntKind.i64.wrap ((nx C S k).1 + 1)), D.n 0]]
        rw [rtab_app, w1]; unfold crow; rw [e1]
    · have g : decide (IntKind.i64.wrap ((nx C S k).2 + min (at' S (0 + k)) C) > C) = false := g
      rw [eA] at g
      have g := of_decide_eq_false g
      have e1 : cel C S k = nx C S k := by unfold cel cellOf; rw [if_neg g]
      have e2 : nx C S (k + 1) = ((nx C S k).1, (nx C S k).2 + min (at' S k) C) := by
        show ((cel C S k).1, (cel C S k).2 + min (at' S k) C) = _
        rw [e1]
      intro _; refine ⟨rfl, ?_⟩
      intro _; refine ⟨fun g3 => by simp at g3, fun _ => ?_⟩
      refine ⟨⟨(rtab_len k _).symm, show k + 1 ≤ 4611686018427387904 by omega, show (k + 1) * 16 ≤ 70368744177664 by omega⟩, ?_⟩
      refine ⟨⟨k + 1, by omega, sidx hmk ⟨by omega, by omega⟩⟩, by simp; omega, th [(1, some 3)] 2, rfl, rfl, rfl, rfl, rfl, rfl, ?_, ?_⟩
      · (repeat' first | exact trivial | exact rfl | refine And.intro ?_ ?_)
        · exact ek
        · show (nx C S (k + 1)).1 = (nx C S k).1
          rw [e2]
        · show (nx C S (k + 1)).2 = IntKind.i64.wrap ((nx C S k).2 + min (at' S (0 + k)) C)
          rw [e2, eA]
      · (repeat' first | exact trivial | exact rfl | refine And.intro ?_ ?_)
        show rtab (k + 1) (crow C S) = rtab k (crow C S) ++ [[D.n (nx C S k).1, D.n (nx C S k).2]]
        rw [rtab_app]; unfold crow; rw [e1]
  · have hkl := of_decide_eq_false (show decide ((k : Int) < (S.length : Int)) = false from g)
    have hkl : k = S.length := by omega
    subst hkl
    have e1 : cl C S = (rtab S.length (crow C S), 0) := by unfold cl; rw [if_neg (by omega), if_pos ⟨by omega, hC, hmk⟩]
    intro _
    refine ⟨[(1, some 1)], .tup [.grw 1 (cl C S).1.length, .int .i64 (cl C S).2], ⟨2, 1, [(1, .arr [.int .i64, .int .i64] .grow (.recs (cl C S).1))]⟩, rfl, rfl, rfl, rfl, ?_, ?_, ⟨rfl, rfl⟩⟩
    · rw [e1]
      (repeat' first | exact trivial | exact rfl | refine And.intro ?_ ?_)
      exact rtab_len _ _
    · rw [e1]
      (repeat' first | exact trivial | exact rfl | refine And.intro ?_ ?_)
def Us (C : Int) (S : List Int) : Prop := S.length ≤ 100 ∧ SpOk C S
instance decUs (C : Int) (S : List Int) : Decidable (Us C S) := inferInstanceAs (Decidable (_ ∧ _))
theorem spans_ok (C : Int) (S : List Int) (hl : S.length ≤ 9223372036854775807) : SemF Try.prog 52 [.int .i64 C, .slc 0 1 0 S.length] ⟨1, 1, [(0, .arr [.int .i64] .rd (.ints S))]⟩ (fun v _ => v = .test ((cl C S).2 == 0) ∧ nameless v = true) := by
  refine enter tt_ok Try.func52 (nt := 15) (cd := body Try.f52) rfl rfl rfl rfl ?_
  intro _
  refine call_new [(0, some 0)] (rcells_ok C S hl) rfl rfl rfl rfl ?_ ?_ ?_
  · (repeat' first | exact trivial | exact rfl | refine And.intro ?_ ?_)
  · (repeat' first | exact trivial | exact rfl | refine And.intro ?_ ?_)
  intro v h' hv
  obtain ⟨rfl, rfl⟩ := hv
  refine ⟨[(1, some 1)], 2, [(1, .arr [.int .i64, .int .i64] .grow (.recs (cl C S).1))], .tup [.grw 1 (cl C S).1.length, .int .i64 (cl C S).2], rfl, rfl, rfl, rfl, rfl, ?_, ?_, ?_⟩
  · (repeat' first | exact trivial | exact rfl | refine And.intro ?_ ?_)
  · (repeat' first | exact trivial | exact rfl | refine And.intro ?_ ?_)
  intro _
  exact ⟨rfl, rfl⟩
theorem cl_ok {C : Int} {S : List Int} (h : SpOk C S) : cl C S = (rtab S.length (crow C S), 0) := by have := h.1; unfold cl; rw [if_neg (by omega), if_pos h]
theorem cl_zero {C : Int} {S : List Int} (h : (cl C S).2 = 0) : SpOk C S := by
  unfold cl at h
  split at h
  · simp at h
  · split at h
    · assumption
    · simp at h
theorem usable_ok (C : Int) (S : List Int) (hl : S.length ≤ 9223372036854775807) : SemF Try.prog 39 [.int .i64 C, .slc 0 1 0 S.length] ⟨1, 1, [(0, .arr [.int .i64] .rd (.ints S))]⟩ (fun v _ => v = .test (decide (Us C S)) ∧ nameless v = true) := by
  refine SemF.test ?_
  refine enter tt_ok Try.func39 (nt := 13) (cd := body Try.f39) rfl rfl rfl rfl ?_
  intro _; refine ⟨fun g => ?_, fun g => ?_⟩
  rotate_left
  · have g := of_decide_eq_false (show decide ((S.length : Int) ≤ 100) = false from g)
    intro _
    exact ⟨false, .inl rfl, by rw [decide_eq_false (fun h : Us C S => by have := h.1; omega)], rfl⟩
  have g := of_decide_eq_true (show decide ((S.length : Int) ≤ 100) = true from g)
  intro _
  refine call_pure [(0, some 0)] (spans_ok C S hl) rfl rfl rfl ?_ ?_ ?_
  · (repeat' first | exact trivial | exact rfl | refine And.intro ?_ ?_)
  · (repeat' first | exact trivial | exact rfl | refine And.intro ?_ ?_)
  intro v hv _
  subst hv
  intro _
  refine ⟨_, .inr rfl, ?_, rfl⟩
  by_cases h : SpOk C S
  · rw [decide_eq_true (show Us C S from ⟨by omega, h⟩), cl_ok h]; rfl
  · rw [decide_eq_false (fun h2 : Us C S => h h2.2)]
    have : (cl C S).2 ≠ 0 := fun e => h (cl_zero e)
    congr 1
    simpa using this
theorem law10 (C : Int) (S : List Int) (hl : List.length S ≤ 9223372036854775807) : SemF Try.prog 10 [.int .i64 C, .slc 0 1 0 S.length] ⟨1, 1, [(0, .arr [.int .i64] .ro (.ints S))]⟩ (fun v _ => IsTrue v) := by
  refine enter tt_ok Try.func10 (nt := 94) (cd := body Try.f10) rfl rfl rfl rfl ?_
  intro _
  refine head_ok rfl Try.func28 (cd := body Try.f28) rfl ?_
  intro _
  refine call_pure [(0, some 0)] (usable_ok C S hl) rfl rfl rfl ?_ ?_ ?_
  · (repeat' first | exact trivial | exact rfl | refine And.intro ?_ ?_)
  · (repeat' first | exact trivial | exact rfl | refine And.intro ?_ ?_)
  intro v hv _
  subst hv
  intro _; refine ⟨fun g => ?_, fun g => ?_⟩
  · intro _
    show true = true
    rfl
  have g : (!decide (Us C S)) = false := g
  rw [Bool.not_eq_false'] at g
  obtain ⟨h100, hU⟩ := of_decide_eq_true g
  have e1 := cl_ok hU
  have eL : List.length (cl C S).1 = S.length := by rw [e1]; exact rtab_len _ _
  have row : ∀ k, k < S.length → (cl C S).1.getD k [] = crow C S k := fun k hk => by rw [e1]; exact rtab_get _ hk
  intro _
  refine call_new [(0, some 0)] (cells_ok C S hl) rfl rfl rfl rfl ?_ ?_ ?_
  · (repeat' first | exact trivial | exact rfl | refine And.intro ?_ ?_)
  · (repeat' first | exact trivial | exact rfl | refine And.intro ?_ ?_)
  intro v h' hv
  obtain ⟨rfl, rfl⟩ := hv
  refine ⟨[(1, some 1)], 2, [(1, .arr [.int .i64, .int .i64] .grow (.recs (cl C S).1))], .tup [.grw 1 (cl C S).1.length, .int .i64 (cl C S).2], rfl, rfl, rfl, rfl, rfl, ?_, ?_, ?_⟩
  · (repeat' first | exact trivial | exact rfl | refine And.intro ?_ ?_)
  · (repeat' first | exact trivial | exact rfl | refine And.intro ?_ ?_)
  intro _; refine ⟨fun g => ?_, fun _ => ?_⟩
  · exfalso
    have g : ((cl C S).2 != 0) = true := g
    rw [e1] at g; simp at g
  intro _; refine ⟨fun g => ?_, fun _ => ?_⟩
  · exfalso
    have g : (((cl C S).1.length : Int) != (S.length : Int)) = true := g
    rw [eL] at g; simp at g
  intro _
  refine loop2 tt_ok [36, 5] [] 2 (fun k : Fin (S.length + 1) => [(36, .int .i64 (k : Nat)), (5, .bool true)]) (fun _ => []) (fun k => S.length - k) ⟨0, by omega⟩ ?_
  intro _
  refine ⟨⟨th [] 2, rfl, rfl, rfl, rfl, rfl, rfl, ?_, ?_⟩, ?_⟩
  · (repeat' first | exact trivial | exact rfl | refine And.intro ?_ ?_)
  · (repeat' first | exact trivial | exact rfl | refine And.intro ?_ ?_)
  intro ⟨k, hk⟩
  have z : 0 + k = k := Nat.zero_add k
  intro _; refine ⟨fun g => ?_, fun g => ?_⟩
  rotate_left
  · intro _
    show true = true
    rfl
  have g : decide ((k : Int) < ((cl C S).1.length : Int)) = true := g
  rw [eL] at g
  have hkl := of_decide_eq_true g
  have hkn : k < S.length := by omega
  have hC := hU.2.1
  have hS := hU.2.2
  have cb := cel_bd hC (k := k) (fun i hi => hS i (by omega))
  have ek := (wrap_nat k (by omega)).symm
  have r0 : (((cl C S).1.getD k []).getD 0 (D.n 0)).int = (cel C S k).1 := by rw [row k hkn]; rfl
  have r1 : (((cl C S).1.getD k []).getD 1 (D.n 0)).int = (cel C S k).2 := by rw [row k hkn]; rfl
  intro _; refine ⟨show 0 ≤ (k : Int) ∧ (k : Int) < ((cl C S).1.length : Int) by rw [eL]; omega, ?_⟩
  intro _; refine ⟨show (k : Int).toNat < List.length (cl C S).1 by rw [eL]; omega, ?_⟩
  intro _; refine ⟨show 0 ≤ (k : Int) ∧ (k : Int) < (S.length : Int) by omega, ?_⟩
  intro _; refine ⟨show 0 + (k : Int).toNat < S.length by omega, ?_⟩
  have fin : true = decide (IntKind.i64.wrap ((((cl C S).1.getD k []).getD 1 (D.n 0)).int + min (at' S (0 + k)) C) ≤ C) := by
    have hsk := hS k hkn
    rw [r1, z, wrapS _ ⟨by omega, by omega⟩]
    exact (decide_eq_true cb.2.2.2).symm
  intro _; refine ⟨fun g => ?_, fun g => ?_⟩
  · have g := of_decide_eq_true (show decide ((k : Int) > 0) = true from g)
    have eW1 : IntKind.i64.wrap ((k : Int) - 1) = ((k - 1 : Nat) : Int) := by rw [wrapS _ ⟨by omega, by omega⟩]; omega
    have eT1 : (IntKind.i64.wrap ((k : Int) - 1)).toNat = k - 1 := by rw [eW1]; omega
    have p0 : (((cl C S).1.getD (k - 1) []).getD 0 (D.n 0)).int = (cel C S (k - 1)).1 := by rw [row (k - 1) (by omega)]; rfl
    have p1 : (((cl C S).1.getD (k - 1) []).getD 1 (D.n 0)).int = (cel C S (k - 1)).2 := by rw [row (k - 1) (by omega)]; rfl
    have enx : nx C S k = ((cel C S (k - 1)).1, (cel C S (k - 1)).2 + min (at' S (k - 1)) C) := by
      have : k = (k - 1) + 1 := by omega
      rw [this]; rfl
    have pb := cel_bd hC (k := k - 1) (fun i hi => hS i (by omega))
    have hsk := hS k hkn
    have hsp := hS (k - 1) (by omega)
    intro _; refine ⟨show 0 ≤ IntKind.i64.wrap ((k : Int) - 1) ∧ IntKind.i64.wrap ((k : Int) - 1) < ((cl C S).1.length : Int) by rw [eW1, eL]; omega, ?_⟩
    intro _; refine ⟨show (IntKind.i64.wrap ((k : Int) - 1)).toNat < List.length (cl C S).1 by rw [eT1, eL]; omega, ?_⟩
    intro _; refine ⟨show 0 ≤ IntKind.i64.wrap ((k : Int) - 1) ∧ IntKind.i64.wrap ((k : Int) - 1) < (S.length : Int) by rw [eW1]; omega, ?_⟩
    intro _; refine ⟨show 0 + (IntKind.i64.wrap ((k : Int) - 1)).toNat < S.length by rw [eT1]; omega, ?_⟩
    intro _; refine ⟨by kernel_rfl, ?_⟩
    have eQ : IntKind.i64.wrap ((((cl C S).1.getD (IntKind.i64.wrap ((k : Int) - 1)).toNat []).getD 1 (D.n 0)).int + min (at' S (0 + (IntKind.i64.wrap ((k : Int) - 1)).toNat)) C) = (nx C S k).2 := by
      rw [eT1, p1, Nat.zero_add, enx]; exact wrapS _ ⟨by omega, by omega⟩
    have eR : IntKind.i64.wrap (IntKind.i64.wrap ((((cl C S).1.getD (IntKind.i64.wrap ((k : Int) - 1)).toNat []).getD 1 (D.n 0)).int + min (at' S (0 + (IntKind.i64.wrap ((k : Int) - 1)).toNat)) C) + min (at' S (0 + k)) C) = (nx C S k).2 + min (at' S k) C := by
      have nb := nx_bd hC k (fun i hi => hS i (by omega))
      rw [eQ, z]; exact wrapS _ ⟨by omega, by omega⟩
    intro _; refine ⟨fun g => ?_, fun g => ?_⟩
    · have g : decide (IntKind.i64.wrap (IntKind.i64.wrap ((((cl C S).1.getD (IntKind.i64.wrap ((k : Int) - 1)).toNat []).getD 1 (D.n 0)).int + min (at' S (0 + (IntKind.i64.wrap ((k : Int) - 1)).toNat)) C) + min (at' S (0 + k)) C) > C) = true := g
      rw [eR] at g
      have g := of_decide_eq_true g
      have ec : cel C S k = ((nx C S k).1 + 1, 0) := by unfold cel cellOf; rw [if_pos g]
      intro _; refine ⟨fun _ => ?_, fun g => ?_⟩
      rotate_left
      · exfalso
        have g : (((((cl C S).1.getD k []).getD 0 (D.n 0)).int == IntKind.i64.wrap ((((cl C S).1.getD (IntKind.i64.wrap ((k : Int) - 1)).toNat []).getD 0 (D.n 0)).int + 1)) && ((((cl C S).1.getD k []).getD 1 (D.n 0)).int == 0)) = false := g
        rw [r0, r1, eT1, p0, ec, enx, wrapS _ ⟨by omega, by omega⟩] at g
        simp at g
      refine ⟨⟨k + 1, by omega⟩, by simp; omega, th [] 2, rfl, rfl, rfl, rfl, rfl, rfl, ?_, ?_⟩
      · (repeat' first | exact trivial | exact rfl | refine And.intro ?_ ?_)
        · exact ek
        · exact fin
      · (repeat' first | exact trivial | exact rfl | refine And.intro ?_ ?_)
    · have g : decide (IntKind.i64.wrap (IntKind.i64.wrap ((((cl C S).1.getD (IntKind.i64.wrap ((k : Int) - 1)).toNat []).getD 1 (D.n 0)).int + min (at' S (0 + (IntKind.i64.wrap ((k : Int) - 1)).toNat)) C) + min (at' S (0 + k)) C) > C) = false := g
      rw [eR] at g
      have g := of_decide_eq_false g
      have ec : cel C S k = nx C S k := by unfold cel cellOf; rw [if_neg g]
      intro _; refine ⟨fun _ => ?_, fun g => ?_⟩
      rotate_left
      · exfalso
        have g : (((((cl C S).1.getD k []).getD 0 (D.n 0)).int == (((cl C S).1.getD (IntKind.i64.wrap ((k : Int) - 1)).toNat []).getD 0 (D.n 0)).int) && ((((cl C S).1.getD k []).getD 1 (D.n 0)).int == IntKind.i64.wrap ((((cl C S).1.getD (IntKind.i64.wrap ((k : Int) - 1)).toNat []).getD 1 (D.n 0)).int + min (at' S (0 + (IntKind.i64.wrap ((k : Int) - 1)).toNat)) C))) = false := g
        rw [eQ, r0, r1, eT1, p0, ec, enx] at g
        simp at g
      refine ⟨⟨k + 1, by omega⟩, by simp; omega, th [] 2, rfl, rfl, rfl, rfl, rfl, rfl, ?_, ?_⟩
      · (repeat' first | exact trivial | exact rfl | refine And.intro ?_ ?_)
        · exact ek
        · exact fin
      · (repeat' first | exact trivial | exact rfl | refine And.intro ?_ ?_)
  · have g := of_decide_eq_false (show decide ((k : Int) > 0) = false from g)
    have hk0 : k = 0 := by omega
    subst hk0
    have hsk := hS 0 hkn
    have ec : cel C S 0 = (0, 0) := by unfold cel cellOf nx; rw [if_neg (by simp only []; omega)]
    intro _; refine ⟨fun _ => ?_, fun g => ?_⟩
    rotate_left
    · exfalso
      have g : (((((cl C S).1.getD 0 []).getD 0 (D.n 0)).int == 0) && ((((cl C S).1.getD 0 []).getD 1 (D.n 0)).int == 0)) = false := g
      rw [r0, r1, ec] at g
      simp at g
    refine ⟨⟨0 + 1, by omega⟩, by simp; omega, th [] 2, rfl, rfl, rfl, rfl, rfl, rfl, ?_, ?_⟩
    · (repeat' first | exact trivial | exact rfl | refine And.intro ?_ ?_)
      · exact fin
    · (repeat' first | exact trivial | exact rfl | refine And.intro ?_ ?_)

theorem walk (w : World) (cn : Int) (w_cn : (Lit.int .i64 cn).wf = true) (v_xs : Value) (s_xs : Src) (xs : List Int) (cap_xs : Nat) (hk_xs : s_xs.ks = [.int .i64]) (ha_xs : s_xs.ac = .ints xs) (hs_xs : s_xs.lies w) (hn_xs : s_xs.at_ = none → xs.length = 0) (hc_xs : xs.length ≤ cap_xs) (hv_xs : v_xs = s_xs.val cap_xs) (hm_xs : xs.length ≤ maxLen) (w_xs : ∀ n ∈ xs, (Lit.int .i64 n).wf = true) :
    Calls Try.prog 10 #[.int .i64 cn, v_xs] w fun e w' => e = .returned (.bool true) ∧ Below w.heap.size w w' := by
  obtain ⟨at_xs, ks_xs, ac_xs⟩ := s_xs
  simp only [] at hk_xs ha_xs
  subst hk_xs ha_xs
  have h_xs : xs.length ≤ 9223372036854775807 := by unfold maxLen at hm_xs; omega
  have b_cn := w_cn
  simp [Lit.wf, IntKind.min, IntKind.max, IntKind.signed, IntKind.bits] at b_cn
  exact top_run (by kernel_rfl) (by kernel_rfl) (T := [28]) (fun f hf w => by
      rcases List.mem_cons.1 hf with e | e
      · subst e; exact head w
      · exact (List.not_mem_nil e).elim) (l := [⟨at_xs, [.int .i64], .ints xs⟩]) (args := [.int .i64 cn, .slc 0 1 0 xs.length]) («as» := [.int .i64 cn, Src.av 0 cap_xs ⟨at_xs, [.int .i64], .ints xs⟩]) (cargs := [.int .i64 cn, v_xs]) w
    (fun s h => by
      rcases List.mem_cons.1 h with e | h
      · subst e; exact hs_xs
      · exact (List.not_mem_nil h).elim)
    (Cvs.cons mk_int (Cvs.cons (src_cv (s := ⟨at_xs, [.int .i64], .ints xs⟩) rfl 1 hc_xs hn_xs) Cvs.nil))
    (by simp only [Go.Vm.convs, Go.Vm.conv]; rw [src_conv (j := 0) (s := ⟨at_xs, [.int .i64], .ints xs⟩) rfl, hv_xs])
    (law10 cn xs h_xs)

set_option maxRecDepth 100000 in
theorem lifted (os : Os) (started : os.Started) (H : Type) (enc : TypeId × Value → H) :
    ReturnsInHanded {} Try.checked os 10 .any (Rows.gridCellsSpec.pre6 enc Try.prog Try.f10 Rows.gridCellsRow.domain false) (Rows.gridCellsSpec.post enc Try.prog Try.f10 false true false false) := by
  refine returnsInHanded_of_change (C := Try.checked) own started (by kernel_rfl) Try.func10
    (ChangeSpec.witness6 (enc := enc) (C := Try.checked) false ⟨#[], #[.int .i64 0, .slice none 0 0], []⟩ 8 (by kernel_rfl) (by kernel_rfl) (by kernel_rfl) (by kernel_rfl)) ?_
  intro W base args ds gs before hval0 hW hcnd _
  have hval : ∀ (j : Nat) t v, Try.f10.params[j]? = some t → args[j]? = some v → Value.okWide Try.prog W .any base t v := hval0
  have hW' := hW
  obtain ⟨p, q, hA0, hV, rfl, hfz, hnd⟩ := hW
  have hA : DataW.TrodAll enc Try.prog W 0 (fun _ => true) true Try.f10.params.toList args.toList ds p := hA0
  rw [Try.params10] at hA hval
  obtain ⟨v0, vs0, d0, ds0, p0, q0, hargs, rfl, rfl, h0, r0⟩ := trodAll_cons hA
  obtain ⟨v1, vs1, d1, ds1, p1, q1, rfl, rfl, rfl, h1, r1⟩ := trodAll_cons r0
  obtain ⟨rfl, rfl, rfl⟩ := trodAll_nil r1
  obtain rfl : args = #[v0, v1] := by cases args; simp_all
  obtain ⟨rfl, rfl⟩ := trodVars_none hV
  obtain ⟨cn, rfl, rfl, rfl, w_cn⟩ := open_int Try.underlying3 (hval 0 3 v0 rfl rfl) h0
  obtain ⟨s_xs, xs, cap_xs, hk_xs, ha_xs, hs_xs, hn_xs, hc_xs, hv_xs, hm_xs, w_xs⟩ := Go.Vm2.open_list Try.underlying50 Try.underlying3 (by kernel_rfl) (hval 1 50 v1 rfl rfl) h1
  have hlt1 : ∀ x ∈ p1, x.block < W.heap.size := fun x hx => by simpa using hW'.lt x (by simp [hx])
  clear hA0 hval0
  refine (walk W cn w_cn v1 s_xs xs cap_xs hk_xs ha_xs hs_xs hn_xs hc_xs hv_xs hm_xs w_xs).mono fun e W' ⟨he, hg⟩ => ?_
  subst he
  exact ⟨_, rfl, _, _, _, [], _, [], hW', trodAll_cons_mk (shut_bool Try.underlying4 _) trodAll_mk0, (trodAll_cons_mk (shut_int Try.underlying3 w_cn) (trodAll_cons_mk (Below.trod laidOut (by kernel_rfl) (of_decide_eq_true (by kernel_rfl)) h1 hg hlt1) trodAll_mk0)), rfl, hg.frame _, fun h => by cases h⟩

theorem over : Rows.gridCellsRow.holds Try.pinned (OpenSpec.ofChange Rows.gridCellsSpec) :=
  OpenClaim.holds_of_wide 10 Try.f10 rfl rfl rfl rfl rfl rfl rfl ⟨rfl, rfl, rfl, rfl, rfl⟩ rfl rfl rfl rfl rfl (by kernel_rfl) Try.func10 (by kernel_rfl)
    (of_decide_eq_true (by kernel_rfl)) (by unfold Func.isWrapper; first | (rw [if_pos (by decide +kernel)]; kernel_rfl) | (rw [if_neg (by decide +kernel)]; exact ⟨rfl, rfl⟩))
    (fun os started H enc _ => lifted os started H enc)

/-- the statement -/
theorem proved : Rows.GridCellsSaid :=
  over
#print axioms proved
end Go.Proofs.Ytojkgickckchgab.gridCells
