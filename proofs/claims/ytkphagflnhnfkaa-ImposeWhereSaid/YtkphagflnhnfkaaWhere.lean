/-
  ImposeWhere: whatever the arguments, the law returns true, and its arguments read as before. No conditions.
-/
import Derived.Test.YtkphagflnhnfkaaRows
import Derived.Test.YtkphagflnhnfkaaVwOpen2
import Derived.Test.YtkphagflnhnfkaaVwRules6
import Derived.Test.YtkphagflnhnfkaaVmSym
import Derived.WalkKit
import Derived.ProofKit
import Derived.OpenShut
import Derived.Carry
namespace Go.Proofs.Ytkphagflnhnfkaa.imposeWhere
open Go.ChangeShapes Go.WideShapes Go.ChangeAt Go.RowKit
open Go.Vm (Facts Val Sound)
open Go.Vm2
set_option linter.unusedVariables false
set_option linter.unusedSectionVars false

theorem own : ownKnob Try.prog.godebug = none := by kernel_rfl
theorem laidOut : laidOutB Try.prog = true := by kernel_rfl
def ts : List Nat := [53, 3, 41, 46, 25, 4, 65, 67, 22, 76]
def tt : Go.Vm2.TT := [
  (53, ⟨(.map .i64 3), false, 1, .nilm, true⟩),
  (3, ⟨(.int .i64), false, 1, .int .i64 (0), true⟩),
  (41, ⟨(.slice 46 4 32 [.int .i64, .bool, .int .i64, .int .i64]), false, 1, .nils, true⟩),
  (46, ⟨(.struct [⟨0, 1, false⟩, ⟨1, 1, false⟩, ⟨2, 1, false⟩, ⟨3, 1, false⟩]), true, 4, .agg [.int .i64 (0), .bool false, .int .i64 (0), .int .i64 (0)], true⟩),
  (25, ⟨(.int .i64), false, 1, .int .i64 (0), true⟩),
  (4, ⟨.bool, false, 1, .bool false, true⟩),
  (65, ⟨(.map .i64 67), false, 1, .nilm, true⟩),
  (67, ⟨(.struct [⟨0, 4, true⟩, ⟨4, 1, false⟩]), true, 5, .agg [.int .i64 (0), .bool false, .int .i64 (0), .int .i64 (0), .bool false], false⟩),
  (22, ⟨(.slice 3 1 8 [.int .i64]), false, 1, .nils, true⟩),
  (76, ⟨.other, false, 1, .nilf, true⟩)]
theorem tt_mk : mkTT Try.prog ts = some tt := by kernel_rfl
theorem head (w : World) : Calls Try.prog 23 #[] w fun e w' => e = .returned (.bool true) ∧ Below w.heap.size w w' :=
  Go.Vm.head_run (by kernel_rfl) (by kernel_rfl) (n := 1000000) (by kernel_rfl) w
instance facts : Facts := ⟨[], [23], false⟩
instance val : Val := ⟨fun _ => 0⟩
instance sound : Sound := ⟨fun f hf => (List.not_mem_nil hf).elim⟩
theorem tt_ok : TTok Try.prog tt := ttok_mk tt_mk
def body (f : Func) : Code := match f.body with | some c => c | none => .skip
set_option maxRecDepth 100000
theorem wrap_nat (k : Nat) (h : k < 9223372036854775807) : IntKind.i64.wrap ((k : Int) + 1) = ((k + 1 : Nat) : Int) := by
  rw [IntKind.wrap_i64]; omega
theorem wrapS (n : Int) (h : -9000000000000000000 ≤ n ∧ n ≤ 9000000000000000000) : IntKind.i64.wrap n = n := by rw [IntKind.wrap_i64]; omega
abbrev Rows := List (List D)
def K4 : List CK := [.int .i64, .bool, .int .i64, .int .i64]
def Cn (n : Int) : Prop := 0 ≤ n ∧ n ≤ 500
instance decCn (n : Int) : Decidable (Cn n) := inferInstanceAs (Decidable (_ ∧ _))
theorem count_test (n : Int) (h : H) (K : V → H → Prop) (hK : K (.test (decide (Cn n))) h) : SemF Try.prog 38 [.int .i64 n] h K := by
  refine SemF.test ?_
  refine enter tt_ok Try.func38 (nt := 9) (cd := body Try.f38) rfl rfl rfl rfl ?_
  intro _; refine ⟨fun g => ?_, fun g => ?_⟩
  · have g := of_decide_eq_true (show decide (n ≥ 0) = true from g)
    intro _
    refine ⟨_, .inr rfl, ?_⟩
    have : decide (Cn n) = decide (n ≤ 500) := by
      by_cases e : n ≤ 500
      · rw [decide_eq_true e, decide_eq_true (show Cn n from ⟨by omega, e⟩)]
      · rw [decide_eq_false e, decide_eq_false (fun m => e m.2)]
    rw [← this]; exact hK
  · have g := of_decide_eq_false (show decide (n ≥ 0) = false from g)
    intro _
    refine ⟨false, .inl rfl, ?_⟩
    have : decide (Cn n) = false := decide_eq_false (fun m => by have := m.1; omega)
    rw [← this]; exact hK
def pg (n p : Int) : Int := if p > n then 0 else p
theorem page_ok (n p : Int) : SemF Try.prog 45 [.int .i64 p, .ptr 0 0] ⟨1, 1, [(0, .cells [.int .i64 n])]⟩ (fun v _ => v = .int .i64 (pg n p) ∧ nameless v = true) := by
  refine enter tt_ok Try.func45 (nt := 8) (cd := body Try.f45) rfl rfl rfl rfl ?_
  intro _; refine ⟨fun g => ?_, fun g => ?_⟩
  · have g := of_decide_eq_true (show decide (p > n) = true from g)
    intro _
    refine ⟨?_, rfl⟩
    unfold pg; rw [if_pos g]
  · have g := of_decide_eq_false (show decide (p > n) = false from g)
    intro _
    refine ⟨?_, rfl⟩
    unfold pg; rw [if_neg g]
def frn (n : Int) (S s : Nat) : List D := [.n s, .b false, .n (pg n (4 * S + 2 - 2 * s)), .n (pg n (2 * s - 1))]
def bck (n : Int) (S s : Nat) : List D := [.n s, .b true, .n (pg n (2 * s)), .n (pg n (4 * S + 1 - 2 * s))]
def fcs (n : Int) (S : Nat) : Nat → Rows
  | 0 => []
  | k + 1 => fcs n S k ++ [frn n S (k + 1)] ++ [bck n S (k + 1)]
theorem fcs_len (n : Int) (S : Nat) : ∀ k, List.length (fcs n S k) = 2 * k
  | 0 => rfl
  | k + 1 => by simp only [fcs, List.length_append, fcs_len n S k, List.length_cons, List.length_nil]; omega
def shs (n : Int) : Nat := ((n + 3).tdiv 4).toNat
def fr (n : Int) : Rows × Int := if Cn n then (fcs n (shs n) (shs n), 0) else ([], 1)
def FQ (n : Int) : V → H → Prop := fun v h' => v = .tup [.grw 0 (fr n).1.length, .int .i64 (fr n).2] ∧ h' = ⟨1, 0, [(0, .arr [.int .i64, .bool, .int .i64, .int .i64] .grow (.recs (fr n).1))]⟩
theorem faces_all (n : Int) : SemF Try.prog 24 [.int .i64 n] ⟨0, 0, []⟩ (FQ n) := by
  refine SemF.ret ?_
  refine enter tt_ok Try.func24 (nt := 17) (cd := body Try.f24) rfl rfl rfl rfl ?_
  intro _
  refine count_test _ _ _ ?_
  intro _; refine ⟨fun g => ?_, fun g => ?_⟩
  · have g : (!decide (Cn n)) = true := g
    rw [Bool.not_eq_true'] at g
    have g := of_decide_eq_false g
    have e : fr n = ([], 1) := by unfold fr; rw [if_neg g]
    intro _
    refine ⟨[(0, none)], .tup [.grw 0 0, .int .i64 1], ⟨1, 0, [(0, .arr [.int .i64, .bool, .int .i64, .int .i64] .grow (.recs []))]⟩, rfl, rfl, rfl, rfl, ?_, ?_, ?_, ?_⟩
    · (repeat' first | exact trivial | exact rfl | refine And.intro ?_ ?_)
    · (repeat' first | exact trivial | exact rfl | refine And.intro ?_ ?_)
    · rw [e]; rfl
    · rw [e]
  have g : (!decide (Cn n)) = false := g
  rw [Bool.not_eq_false'] at g
  have hn := of_decide_eq_true g
  have e : fr n = (fcs n (shs n) (shs n), 0) := by unfold fr; rw [if_pos hn]
  obtain ⟨N, hN⟩ : ∃ N : Nat, n = N := ⟨n.toNat, by have := hn.1; omega⟩
  have hN5 : N ≤ 500 := by have := hn.2; omega
  have eS0 : (n + 3).tdiv 4 = ((N + 3) / 4 : Nat) := by
    subst hN
    exact_mod_cast Int.ofNat_tdiv (N + 3) 4
  have eS : shs n = (N + 3) / 4 := by unfold shs; rw [eS0]; omega
  intro _
  refine enter tt_ok Try.func39 (nt := 10) (cd := body Try.f39) rfl rfl rfl rfl ?_
  intro _; refine ⟨by omega, ?_⟩
  intro _
  intro _
  refine range_ok ?_
  intro _
  refine enter tt_ok Try.func46 (nt := 51) (cd := body Try.f46) rfl rfl rfl rfl ?_
  have eS2 : IntKind.i64.wrap ((IntKind.i64.wrap (n + 3)).tdiv 4) = (shs n : Int) := by
    rw [wrapS (n + 3) ⟨by omega, by omega⟩, eS0, ← eS]
    exact wrapS _ ⟨by omega, by omega⟩
  intro _
  refine loop2 tt_ok [4] [0, 2] 7 (fun k : Fin (shs n + 1) => [(4, .int .i64 ((k : Nat) + 1))]) (fun k => [(0, .cells [.grw 6 (2 * k)]), (2, .cells [.int .i64 (shs n)]), (6, .arr [.int .i64, .bool, .int .i64, .int .i64] .grow (.recs (fcs n (shs n) k)))]) (fun k => shs n - k) ⟨0, by omega⟩ ?_
  intro _
  refine ⟨⟨th [(6, none)] 7, rfl, rfl, rfl, rfl, rfl, rfl, ?_, ?_⟩, ?_⟩
  · (repeat' first | exact trivial | exact rfl | refine And.intro ?_ ?_)
  · (repeat' first | exact trivial | exact rfl | refine And.intro ?_ ?_)
    exact eS2.symm
  intro ⟨k, hk⟩
  intro _; refine ⟨fun g => ?_, fun g => ?_⟩
  · have g := of_decide_eq_true (show decide ((k : Int) + 1 ≤ (shs n : Int)) = true from g)
    have w4 : IntKind.i64.wrap (4 * (shs n : Int)) = 4 * (shs n : Int) := wrapS _ ⟨by omega, by omega⟩
    have w2 : IntKind.i64.wrap (2 * ((k : Int) + 1)) = 2 * ((k : Int) + 1) := wrapS _ ⟨by omega, by omega⟩
    have ec : ((k + 1 : Nat) : Int) = (k : Int) + 1 := rfl
    have eP1 : 4 * (shs n : Int) + 2 - 2 * ((k + 1 : Nat) : Int) = IntKind.i64.wrap (IntKind.i64.wrap (IntKind.i64.wrap (4 * (shs n : Int)) + 2) - IntKind.i64.wrap (2 * ((k : Int) + 1))) := by
      rw [w4, w2, wrapS (4 * (shs n : Int) + 2) ⟨by omega, by omega⟩, wrapS _ ⟨by omega, by omega⟩, ec]
    have eP2 : 2 * ((k + 1 : Nat) : Int) - 1 = IntKind.i64.wrap (IntKind.i64.wrap (2 * ((k : Int) + 1)) - 1) := by
      rw [w2, wrapS _ ⟨by omega, by omega⟩, ec]
    have eP3 : 2 * ((k + 1 : Nat) : Int) = IntKind.i64.wrap (2 * ((k : Int) + 1)) := by rw [w2, ec]
    have eP4 : 4 * (shs n : Int) + 1 - 2 * ((k + 1 : Nat) : Int) = IntKind.i64.wrap (IntKind.i64.wrap (IntKind.i64.wrap (4 * (shs n : Int)) + 1) - IntKind.i64.wrap (2 * ((k : Int) + 1))) := by
      rw [w4, w2, wrapS (4 * (shs n : Int) + 1) ⟨by omega, by omega⟩, wrapS _ ⟨by omega, by omega⟩, ec]
    intro _
    refine Or.inl ?_
    intro _
    refine call_pure [(0, some 1)] (page_ok n (4 * (shs n : Int) + 2 - 2 * ((k + 1 : Nat) : Int))) rfl rfl rfl ?_ ?_ ?_
    · (repeat' first | exact trivial | exact rfl | refine And.intro ?_ ?_)
    · (repeat' first | exact trivial | exact rfl | refine And.intro ?_ ?_)
      exact eP1
    intro v hv _
    subst hv
    intro _
    refine Or.inl ?_
    intro _
    refine call_pure [(0, some 1)] (page_ok n (2 * ((k + 1 : Nat) : Int) - 1)) rfl rfl rfl ?_ ?_ ?_
    · (repeat' first | exact trivial | exact rfl | refine And.intro ?_ ?_)
    · (repeat' first | exact trivial | exact rfl | refine And.intro ?_ ?_)
      exact eP2
    intro v hv _
    subst hv
    intro _
    refine ⟨by kernel_rfl, ?_⟩
    intro _
    refine Or.inl ?_
    intro _
    refine call_pure [(0, some 1)] (page_ok n (2 * ((k + 1 : Nat) : Int))) rfl rfl rfl ?_ ?_ ?_
    · (repeat' first | exact trivial | exact rfl | refine And.intro ?_ ?_)
    · (repeat' first | exact trivial | exact rfl | refine And.intro ?_ ?_)
      exact eP3
    intro v hv _
    subst hv
    intro _
    refine Or.inl ?_
    intro _
    refine call_pure [(0, some 1)] (page_ok n (4 * (shs n : Int) + 1 - 2 * ((k + 1 : Nat) : Int))) rfl rfl rfl ?_ ?_ ?_
    · (repeat' first | exact trivial | exact rfl | refine And.intro ?_ ?_)
    · (repeat' first | exact trivial | exact rfl | refine And.intro ?_ ?_)
      exact eP4
    intro v hv _
    subst hv
    intro _
    refine ⟨by kernel_rfl, ?_⟩
    intro _
    refine yield_ok tt_ok ?_
    intro _; refine ⟨rfl, ?_⟩
    intro _; refine ⟨fun g3 => by simp at g3, fun _ => ?_⟩
    refine ⟨⟨(fcs_len n (shs n) k).symm, by omega, by omega⟩, ?_⟩
    intro _
    intro _
    refine yield_ok tt_ok ?_
    intro _; refine ⟨rfl, ?_⟩
    intro _; refine ⟨fun g3 => by simp at g3, fun _ => ?_⟩
    refine ⟨⟨show 2 * k + 1 = List.length (fcs n (shs n) k ++ [_]) by rw [List.length_append, fcs_len]; rfl, by omega, by omega⟩, ?_⟩
    intro _
    refine ⟨⟨k + 1, by omega⟩, by simp; omega, th [(6, some 14)] 7, rfl, rfl, rfl, rfl, rfl, rfl, ?_, ?_⟩
    · (repeat' first | exact trivial | exact rfl | refine And.intro ?_ ?_)
      show ((k + 1 : Nat) : Int) + 1 = IntKind.i64.wrap ((k : Int) + 1 + 1)
      rw [wrapS _ ⟨by omega, by omega⟩, ec]
    · (repeat' first | exact trivial | exact rfl | refine And.intro ?_ ?_)
  · have g := of_decide_eq_false (show decide ((k : Int) + 1 ≤ (shs n : Int)) = false from g)
    have hkl : k = shs n := by omega
    subst hkl
    intro _
    intro _
    refine ⟨[(0, some 6)], .tup [.grw 0 (fr n).1.length, .int .i64 (fr n).2], ⟨1, 0, [(0, .arr [.int .i64, .bool, .int .i64, .int .i64] .grow (.recs (fr n).1))]⟩, rfl, rfl, rfl, rfl, ?_, ?_, ⟨rfl, rfl⟩⟩
    · rw [e]
      (repeat' first | exact trivial | exact rfl | refine And.intro ?_ ?_)
      exact fcs_len n _ _
    · rw [e]
      (repeat' first | exact trivial | exact rfl | refine And.intro ?_ ?_)
theorem shs_bd {n : Int} (hn : Cn n) : shs n ≤ 125 ∧ n ≤ 4 * shs n ∧ 4 * (shs n : Int) ≤ n + 3 := by
  obtain ⟨N, hN⟩ : ∃ N : Nat, n = N := ⟨n.toNat, by have := hn.1; omega⟩
  have hN5 : N ≤ 500 := by have := hn.2; omega
  have eS0 : (n + 3).tdiv 4 = ((N + 3) / 4 : Nat) := by
    subst hN
    exact_mod_cast Int.ofNat_tdiv (N + 3) 4
  have eS : shs n = (N + 3) / 4 := by unfold shs; rw [eS0]; omega
  omega
def VF (n : Int) : V := .tup [.grw 0 (fr n).1.length, .test (decide (Cn n)), .test true]
def LFQ (n : Int) : V → H → Prop := fun v h' => v = VF n ∧ h' = ⟨1, 0, [(0, .arr [.int .i64, .bool, .int .i64, .int .i64] .grow (.recs (fr n).1))]⟩
theorem lfaces_all (n : Int) : SemF Try.prog 32 [.int .i64 n] ⟨0, 0, []⟩ (LFQ n) := by
  refine SemF.ret ?_
  refine enter tt_ok Try.func32 (nt := 30) (cd := body Try.f32) rfl rfl rfl rfl ?_
  have fin : ¬ Cn n → Ret 0 (LFQ n) (.tup [.nils, .bool false, .bool true]) ⟨0, 0, []⟩ := fun h => by
    have e : fr n = ([], 1) := by unfold fr; rw [if_neg h]
    refine ⟨[(0, none)], .tup [.grw 0 0, .test false, .test true], ⟨1, 0, [(0, .arr [.int .i64, .bool, .int .i64, .int .i64] .grow (.recs []))]⟩, rfl, rfl, rfl, rfl, ?_, ?_, ?_, ?_⟩
    · (repeat' first | exact trivial | exact rfl | refine And.intro ?_ ?_)
    · (repeat' first | exact trivial | exact rfl | refine And.intro ?_ ?_)
    · unfold VF; rw [e, decide_eq_false h]; rfl
    · rw [e]
  intro _; refine ⟨fun g => ?_, fun g => ?_⟩
  · have g := of_decide_eq_true (show decide (n < 0) = true from g)
    intro _
    exact fin (fun h => by have := h.1; omega)
  have g1 := of_decide_eq_false (show decide (n < 0) = false from g)
  intro _; refine ⟨fun g => ?_, fun g => ?_⟩
  · have g := of_decide_eq_true (show decide (n > 500) = true from g)
    intro _
    exact fin (fun h => by have := h.2; omega)
  have g2 := of_decide_eq_false (show decide (n > 500) = false from g)
  have hn : Cn n := ⟨by omega, by omega⟩
  have e : fr n = (fcs n (shs n) (shs n), 0) := by unfold fr; rw [if_pos hn]
  obtain ⟨b1, b2, b3⟩ := shs_bd hn
  intro _
  refine call_new [] (faces_all n) rfl rfl rfl rfl ?_ ?_ ?_
  · (repeat' first | exact trivial | exact rfl | refine And.intro ?_ ?_)
  · (repeat' first | exact trivial | exact rfl | refine And.intro ?_ ?_)
  intro v h' hv
  obtain ⟨rfl, rfl⟩ := hv
  refine ⟨[(0, some 0)], 1, [(0, .arr [.int .i64, .bool, .int .i64, .int .i64] .grow (.recs (fr n).1))], .tup [.grw 0 (fr n).1.length, .int .i64 (fr n).2], rfl, rfl, rfl, rfl, rfl, ?_, ?_, ?_⟩
  · (repeat' first | exact trivial | exact rfl | refine And.intro ?_ ?_)
  · (repeat' first | exact trivial | exact rfl | refine And.intro ?_ ?_)
  intro _; refine ⟨fun g => ?_, fun g => ?_⟩
  · intro _; refine ⟨by omega, ?_⟩
    intro _
    have eW : IntKind.i64.wrap (IntKind.i64.wrap ((IntKind.i64.wrap (n + 3)).tdiv 4) * 2) = ((2 * shs n : Nat) : Int) := by
      have h1 : (n + 3).tdiv 4 = (shs n : Int) := by
        have : 0 ≤ (n + 3).tdiv 4 := Int.tdiv_nonneg (by omega) (by omega)
        unfold shs; omega
      rw [wrapS (n + 3) ⟨by omega, by omega⟩, h1, wrapS (shs n : Int) ⟨by omega, by omega⟩, wrapS _ ⟨by omega, by omega⟩]
      omega
    refine ⟨[(0, some 0)], VF n, ⟨1, 0, [(0, .arr [.int .i64, .bool, .int .i64, .int .i64] .grow (.recs (fr n).1))]⟩, rfl, rfl, rfl, rfl, ?_, ?_, ⟨rfl, rfl⟩⟩
    · (repeat' first | exact trivial | exact rfl | refine And.intro ?_ ?_)
      · exact decide_eq_true hn
      · show true = (((fr n).1.length : Int) == IntKind.i64.wrap (IntKind.i64.wrap ((IntKind.i64.wrap (n + 3)).tdiv 4) * 2))
        rw [eW, e]
        show true = ((List.length (fcs n (shs n) (shs n)) : Int) == ((2 * shs n : Nat) : Int))
        rw [fcs_len]
        simp
    · (repeat' first | exact trivial | exact rfl | refine And.intro ?_ ?_)
  · exfalso
    have g : ((fr n).2 == 0) = false := g
    rw [e] at g
    simp at g
theorem fcs_get (n : Int) (S : Nat) : ∀ k i, i < 2 * k → (fcs n S k).getD i [] = if i % 2 = 0 then frn n S (i / 2 + 1) else bck n S (i / 2 + 1)
  | 0, i, h => by omega
  | k + 1, i, h => by
    rw [List.getD_eq_getElem?_getD]
    simp only [fcs]
    have l1 := fcs_len n S k
    rcases Nat.lt_or_ge i (2 * k) with e | e
    · rw [List.getElem?_append_left (by rw [List.length_append, l1]; omega), List.getElem?_append_left (by omega), ← List.getD_eq_getElem?_getD, fcs_get n S k i e]
    · by_cases e2 : i = 2 * k
      · rw [List.getElem?_append_left (by rw [List.length_append, l1]; simp; omega), List.getElem?_append_right (by omega), e2, l1, if_pos (by omega)]
        have : 2 * k / 2 = k := by omega
        rw [this]; simp
      · have e3 : i = 2 * k + 1 := by omega
        rw [List.getElem?_append_right (by rw [List.length_append, l1]; simp; omega), e3, List.length_append, l1, if_neg (by omega)]
        have : (2 * k + 1) / 2 = k := by omega
        rw [this]; simp
def lfI (n : Int) (S i : Nat) : Int := if i % 2 = 0 then pg n (4 * S + 2 - 2 * ((i / 2 + 1 : Nat) : Int)) else pg n (2 * ((i / 2 + 1 : Nat) : Int))
def rtI (n : Int) (S i : Nat) : Int := if i % 2 = 0 then pg n (2 * ((i / 2 + 1 : Nat) : Int) - 1) else pg n (4 * S + 1 - 2 * ((i / 2 + 1 : Nat) : Int))
section
variable {n : Int} {S i : Nat} (h : i < 2 * S)
include h
theorem g0 : (((fcs n S S).getD i []).getD 0 (D.n 0)).int = ((i / 2 + 1 : Nat) : Int) := by
  rw [fcs_get n S S i h]; split <;> rfl
theorem g1 : (((fcs n S S).getD i []).getD 1 (D.n 0)).bool = decide (i % 2 = 1) := by
  rw [fcs_get n S S i h]
  split
  · rw [decide_eq_false (by omega)]; rfl
  · rw [decide_eq_true (by omega)]; rfl
theorem g2 : (((fcs n S S).getD i []).getD 2 (D.n 0)).int = lfI n S i := by
  rw [fcs_get n S S i h]; unfold lfI; split <;> rfl
theorem g3 : (((fcs n S S).getD i []).getD 3 (D.n 0)).int = rtI n S i := by
  rw [fcs_get n S S i h]; unfold rtI; split <;> rfl
end
theorem pg_cn {n p : Int} (hn : Cn n) (hp : 0 ≤ p) : Cn (pg n p) := by
  unfold pg
  have := hn.2
  split
  · exact ⟨by omega, by omega⟩
  · exact ⟨hp, by omega⟩
theorem lf_cn {n : Int} {S i : Nat} (hn : Cn n) (h : i < 2 * S) : Cn (lfI n S i) := by
  unfold lfI; split <;> exact pg_cn hn (by omega)
theorem rt_cn {n : Int} {S i : Nat} (hn : Cn n) (h : i < 2 * S) : Cn (rtI n S i) := by
  unfold rtI; split <;> exact pg_cn hn (by omega)
/-- the pages in their order -/
def ol (n : Int) (k : Nat) : List Int := (List.range k).map fun (i : Nat) => pg n ((i : Int) + 1)
theorem ol_len (n : Int) (k : Nat) : (ol n k).length = k := by simp [ol]
theorem ol_succ (n : Int) (k : Nat) : ol n (k + 2) = ol n k ++ [pg n ((k : Int) + 1), pg n ((k : Int) + 2)] := by
  have e : (k : Int) + 1 + 1 = (k : Int) + 2 := by omega
  simp [ol, List.range_succ, e]
def OQ (n : Int) (S : Nat) : V → H → Prop := fun v h' => v = .tup [.grw 1 (4 * S), .int .i64 0] ∧ h' = ⟨2, 1, [(1, .arr [.int .i64] .grow (.ints (ol n (4 * S))))]⟩
theorem order_all (n : Int) (hn : Cn n) (S : Nat) (hS : S ≤ 125) : SemF Try.prog 29 [.slc 0 4 0 (2 * S)] ⟨1, 1, [(0, .arr [.int .i64, .bool, .int .i64, .int .i64] .rd (.recs (fcs n S S)))]⟩ (OQ n S) := by
  refine SemF.ret ?_
  refine enter tt_ok Try.func29 (nt := 95) (cd := body Try.f29) rfl rfl rfl rfl ?_
  have hl := fcs_len n S S
  intro _; refine ⟨by omega, ?_⟩
  intro _; refine ⟨fun g => ?_, fun _ => ?_⟩
  · exfalso
    have g : (((2 * S : Nat) : Int).tmod 2 != 0) = true := g
    have e : ((2 * S : Nat) : Int).tmod 2 = 0 := by rw [Int.tmod_eq_emod_of_nonneg (by omega)]; omega
    rw [e] at g; simp at g
  intro _; refine ⟨fun g => ?_, fun _ => ?_⟩
  · exfalso
    have g := of_decide_eq_true (show decide (((2 * S : Nat) : Int) > 250) = true from g)
    omega
  intro _
  refine loop2 tt_ok [21] [] 1 (fun k : Fin (2 * S + 1) => [(21, .int .i64 (k : Nat))]) (fun _ => []) (fun k => 2 * S - k) ⟨0, by omega⟩ ?_
  intro _
  refine ⟨⟨th [] 1, rfl, rfl, rfl, rfl, rfl, rfl, ?_, ?_⟩, ?_⟩
  · (repeat' first | exact trivial | exact rfl | refine And.intro ?_ ?_)
  · (repeat' first | exact trivial | exact rfl | refine And.intro ?_ ?_)
  intro ⟨k, hk⟩
  intro _; refine ⟨fun g => ?_, fun g => ?_⟩
  · have g := of_decide_eq_true (show decide ((k : Int) < ((2 * S : Nat) : Int)) = true from g)
    have hk2 : k < 2 * S := by omega
    have e0 : 0 + ((k : Int)).toNat = k := by omega
    intro _; refine ⟨show 0 ≤ (k : Int) ∧ (k : Int) < ((2 * S : Nat) : Int) by omega, ?_⟩
    intro _; refine ⟨show 0 + (k : Int).toNat < List.length (fcs n S S) by omega, ?_⟩
    intro _; refine ⟨by omega, ?_⟩
    intro _; refine ⟨by omega, ?_⟩
    intro _; refine ⟨fun g => ?_, fun _ => ?_⟩
    · exfalso
      have g : (!((((fcs n S S).getD (0 + (k : Int).toNat) []).getD 0 (D.n 0)).int == IntKind.i64.wrap (IntKind.i64.wrap ((k : Int).tdiv 2) + 1) && ((((fcs n S S).getD (0 + (k : Int).toNat) []).getD 1 (D.n 0)).bool == ((k : Int).tmod 2 == 1) && ((((fcs n S S).getD (0 + (k : Int).toNat) []).getD 2 (D.n 0)).int == (((fcs n S S).getD (0 + (k : Int).toNat) []).getD 2 (D.n 0)).int && (((fcs n S S).getD (0 + (k : Int).toNat) []).getD 3 (D.n 0)).int == (((fcs n S S).getD (0 + (k : Int).toNat) []).getD 3 (D.n 0)).int)))) = true := g
      have e1 : (k : Int).tdiv 2 = ((k / 2 : Nat) : Int) := by exact_mod_cast Int.ofNat_tdiv k 2
      have e2 : (k : Int).tmod 2 = ((k % 2 : Nat) : Int) := by rw [Int.tmod_eq_emod_of_nonneg (by omega)]; omega
      have e3 : (((k % 2 : Nat) : Int) == 1) = decide (k % 2 = 1) := by
        by_cases q : k % 2 = 1
        · rw [q, decide_eq_true rfl]; rfl
        · have : k % 2 = 0 := by omega
          rw [this]; rfl
      rw [e0, g0 hk2, g1 hk2, e1, e2, e3, wrapS ((k / 2 : Nat) : Int) ⟨by omega, by omega⟩, wrapS _ ⟨by omega, by omega⟩] at g
      simp at g
    · intro _
      refine count_test _ _ _ ?_
      intro _; refine ⟨fun g => ?_, fun _ => ?_⟩
      · exfalso
        have g : (!decide (Cn (((fcs n S S).getD (0 + (k : Int).toNat) []).getD 2 (D.n 0)).int)) = true := g
        rw [Bool.not_eq_true', e0, g2 hk2] at g
        exact of_decide_eq_false g (lf_cn hn hk2)
      intro _
      refine count_test _ _ _ ?_
      intro _; refine ⟨fun g => ?_, fun _ => ?_⟩
      · exfalso
        have g : (!decide (Cn (((fcs n S S).getD (0 + (k : Int).toNat) []).getD 3 (D.n 0)).int)) = true := g
        rw [Bool.not_eq_true', e0, g3 hk2] at g
        exact of_decide_eq_false g (rt_cn hn hk2)
      refine ⟨⟨k + 1, by omega⟩, by simp; omega, th [] 1, rfl, rfl, rfl, rfl, rfl, rfl, ?_, ?_⟩
      · (repeat' first | exact trivial | exact rfl | refine And.intro ?_ ?_)
        exact (wrap_nat k (by omega)).symm
      · (repeat' first | exact trivial | exact rfl | refine And.intro ?_ ?_)
  · have g := of_decide_eq_false (show decide ((k : Int) < ((2 * S : Nat) : Int)) = false from g)
    intro _
    refine loop2 tt_ok [7, 8] [1] 2 (fun j : Fin (S + 1) => [(7, .grw 1 (2 * j)), (8, .int .i64 (2 * (j : Nat)))]) (fun j => [(1, .arr [.int .i64] .grow (.ints (ol n (2 * j))))]) (fun j => S - j) ⟨0, by omega⟩ ?_
    intro _
    refine ⟨⟨th [(1, none)] 2, rfl, rfl, rfl, rfl, rfl, rfl, ?_, ?_⟩, ?_⟩
    · (repeat' first | exact trivial | exact rfl | refine And.intro ?_ ?_)
    · (repeat' first | exact trivial | exact rfl | refine And.intro ?_ ?_)
    intro ⟨j, hj⟩
    intro _; refine ⟨fun g => ?_, fun g => ?_⟩
    · have g := of_decide_eq_true (show decide (2 * (j : Int) < ((2 * S : Nat) : Int)) = true from g)
      have hj2 : j < S := by omega
      have w1 : IntKind.i64.wrap (2 * (j : Int) + 1) = 2 * (j : Int) + 1 := wrapS _ ⟨by omega, by omega⟩
      intro _; refine ⟨show 0 ≤ 2 * (j : Int) ∧ 2 * (j : Int) < ((2 * S : Nat) : Int) by omega, ?_⟩
      intro _; refine ⟨show 0 + (2 * (j : Int)).toNat < List.length (fcs n S S) by omega, ?_⟩
      intro _; refine ⟨show 0 ≤ IntKind.i64.wrap (2 * (j : Int) + 1) ∧ IntKind.i64.wrap (2 * (j : Int) + 1) < ((2 * S : Nat) : Int) by rw [w1]; omega, ?_⟩
      intro _; refine ⟨show 0 + (IntKind.i64.wrap (2 * (j : Int) + 1)).toNat < List.length (fcs n S S) by rw [w1]; omega, ?_⟩
      intro _
      refine Or.inr ?_
      intro _; refine ⟨rfl, ?_⟩
      intro _; refine ⟨fun g3 => by simp at g3, fun _ => ?_⟩
      refine ⟨⟨(ol_len n (2 * j)).symm, by omega, by omega⟩, ?_⟩
      intro _
      refine ⟨by kernel_rfl, ?_⟩
      refine ⟨⟨j + 1, by omega⟩, by simp; omega, th [(1, some 3)] 2, rfl, rfl, rfl, rfl, rfl, rfl, ?_, ?_⟩
      · (repeat' first | exact trivial | exact rfl | refine And.intro ?_ ?_)
        show 2 * ((j + 1 : Nat) : Int) = IntKind.i64.wrap (2 * (j : Int) + 2)
        rw [wrapS _ ⟨by omega, by omega⟩]; omega
      · (repeat' first | exact trivial | exact rfl | refine And.intro ?_ ?_)
        show ol n (2 * (j + 1)) = ol n (2 * j) ++ [(((fcs n S S).getD (0 + (2 * (j : Int)).toNat) []).getD 3 (D.n 0)).int, (((fcs n S S).getD (0 + (IntKind.i64.wrap (2 * (j : Int) + 1)).toNat) []).getD 2 (D.n 0)).int]
        have e1 : 0 + (2 * (j : Int)).toNat = 2 * j := by omega
        have e2 : 0 + (2 * (j : Int) + 1).toNat = 2 * j + 1 := by omega
        rw [w1, e1, e2, g3 (by omega), g2 (by omega)]
        have e3 : 2 * (j + 1) = 2 * j + 2 := by omega
        rw [e3, ol_succ]
        unfold rtI lfI
        rw [if_pos (by omega), if_neg (by omega)]
        have e4 : 2 * j / 2 = j := by omega
        have e5 : (2 * j + 1) / 2 = j := by omega
        rw [e4, e5]
        have e6 : 2 * ((j + 1 : Nat) : Int) - 1 = ((2 * j : Nat) : Int) + 1 := by omega
        have e7 : 2 * ((j + 1 : Nat) : Int) = ((2 * j : Nat) : Int) + 2 := by omega
        rw [e6, e7]
    · have g := of_decide_eq_false (show decide (2 * (j : Int) < ((2 * S : Nat) : Int)) = false from g)
      have hjS : j = S := by omega
      subst hjS
      intro _
      refine loop2 tt_ok [7, 9] [1] 2 (fun m : Fin (j + 1) => [(7, .grw 1 (2 * j + 2 * m)), (9, .int .i64 (2 * (j : Int) - 2 - 2 * (m : Nat)))]) (fun m => [(1, .arr [.int .i64] .grow (.ints (ol n (2 * j + 2 * m))))]) (fun m => j - m) ⟨0, by omega⟩ ?_
      intro _
      refine ⟨⟨th [] 2, rfl, rfl, rfl, rfl, rfl, rfl, ?_, ?_⟩, ?_⟩
      · (repeat' first | exact trivial | exact rfl | refine And.intro ?_ ?_)
        show 2 * (j : Int) - 2 - 2 * ((0 : Nat) : Int) = IntKind.i64.wrap (((2 * j : Nat) : Int) - 2)
        rw [wrapS _ ⟨by omega, by omega⟩]; omega
      · (repeat' first | exact trivial | exact rfl | refine And.intro ?_ ?_)
      intro ⟨m, hm⟩
      intro _; refine ⟨fun g => ?_, fun g => ?_⟩
      · have g := of_decide_eq_true (show decide (2 * (j : Int) - 2 - 2 * (m : Int) ≥ 0) = true from g)
        have w1 : IntKind.i64.wrap (2 * (j : Int) - 2 - 2 * (m : Int) + 1) = 2 * (j : Int) - 2 - 2 * (m : Int) + 1 := wrapS _ ⟨by omega, by omega⟩
        intro _; refine ⟨show 0 ≤ IntKind.i64.wrap (2 * (j : Int) - 2 - 2 * (m : Int) + 1) ∧ IntKind.i64.wrap (2 * (j : Int) - 2 - 2 * (m : Int) + 1) < ((2 * j : Nat) : Int) by rw [w1]; omega, ?_⟩
        intro _; refine ⟨show 0 + (IntKind.i64.wrap (2 * (j : Int) - 2 - 2 * (m : Int) + 1)).toNat < List.length (fcs n j j) by rw [w1]; omega, ?_⟩
        intro _; refine ⟨show 0 ≤ 2 * (j : Int) - 2 - 2 * (m : Int) ∧ 2 * (j : Int) - 2 - 2 * (m : Int) < ((2 * j : Nat) : Int) by omega, ?_⟩
        intro _; refine ⟨show 0 + (2 * (j : Int) - 2 - 2 * (m : Int)).toNat < List.length (fcs n j j) by omega, ?_⟩
        intro _
        refine Or.inr ?_
        intro _; refine ⟨rfl, ?_⟩
        intro _; refine ⟨fun g3 => by simp at g3, fun _ => ?_⟩
        refine ⟨⟨(ol_len n (2 * j + 2 * m)).symm, by omega, by omega⟩, ?_⟩
        intro _
        refine ⟨by kernel_rfl, ?_⟩
        refine ⟨⟨m + 1, by omega⟩, by simp; omega, th [(1, some 3)] 2, rfl, rfl, rfl, rfl, rfl, rfl, ?_, ?_⟩
        · (repeat' first | exact trivial | exact rfl | refine And.intro ?_ ?_)
          show 2 * (j : Int) - 2 - 2 * ((m + 1 : Nat) : Int) = IntKind.i64.wrap (2 * (j : Int) - 2 - 2 * (m : Int) - 2)
          rw [wrapS _ ⟨by omega, by omega⟩]; omega
        · (repeat' first | exact trivial | exact rfl | refine And.intro ?_ ?_)
          show ol n (2 * j + 2 * (m + 1)) = ol n (2 * j + 2 * m) ++ [(((fcs n j j).getD (0 + (IntKind.i64.wrap (2 * (j : Int) - 2 - 2 * (m : Int) + 1)).toNat) []).getD 3 (D.n 0)).int, (((fcs n j j).getD (0 + (2 * (j : Int) - 2 - 2 * (m : Int)).toNat) []).getD 2 (D.n 0)).int]
          have e1 : 0 + (2 * (j : Int) - 2 - 2 * (m : Int) + 1).toNat = 2 * (j - 1 - m) + 1 := by omega
          have e2 : 0 + (2 * (j : Int) - 2 - 2 * (m : Int)).toNat = 2 * (j - 1 - m) := by omega
          rw [w1, e1, e2, g3 (by omega), g2 (by omega)]
          have e3 : 2 * j + 2 * (m + 1) = 2 * j + 2 * m + 2 := by omega
          rw [e3, ol_succ]
          unfold rtI lfI
          rw [if_neg (by omega), if_pos (by omega)]
          have e4 : 2 * (j - 1 - m) / 2 = j - 1 - m := by omega
          have e5 : (2 * (j - 1 - m) + 1) / 2 = j - 1 - m := by omega
          rw [e4, e5]
          have e6 : 4 * (j : Int) + 1 - 2 * ((j - 1 - m + 1 : Nat) : Int) = ((2 * j + 2 * m : Nat) : Int) + 1 := by omega
          have e7 : 4 * (j : Int) + 2 - 2 * ((j - 1 - m + 1 : Nat) : Int) = ((2 * j + 2 * m : Nat) : Int) + 2 := by omega
          rw [e6, e7]
      · have g := of_decide_eq_false (show decide (2 * (j : Int) - 2 - 2 * (m : Int) ≥ 0) = false from g)
        have hmj : m = j := by omega
        subst hmj
        intro _
        have e8 : 4 * m = 2 * m + 2 * m := by omega
        refine ⟨[(1, some 1)], .tup [.grw 1 (4 * m), .int .i64 0], ⟨2, 1, [(1, .arr [.int .i64] .grow (.ints (ol n (4 * m))))]⟩, rfl, rfl, rfl, rfl, ?_, ?_, ⟨rfl, rfl⟩⟩
        · (repeat' first | exact trivial | exact rfl | refine And.intro ?_ ?_)
          exact e8
        · rw [e8]
          (repeat' first | exact trivial | exact rfl | refine And.intro ?_ ?_)
theorem mfind_mput (a q : Int) (d : List D) : ∀ l : List (Int × List D), mfind (mput l a d) q = if a = q then some d else mfind l q
  | [] => by simp [mput, mfind]
  | e :: l => by
    simp only [mput]
    by_cases h : e.1 = a
    · rw [if_pos h]
      simp only [mfind]
      by_cases g : a = q
      · simp [g]
      · rw [if_neg g, if_neg g, if_neg (by rw [h]; exact g)]
    · rw [if_neg h]
      simp only [mfind, mfind_mput a q d l]
      by_cases g : e.1 = q
      · rw [if_pos g, if_pos g]
        rw [if_neg (fun k => h (by rw [g, k]))]
      · rw [if_neg g, if_neg g]
abbrev Mp := List (Int × List D)
def two (l : Mp) (r : List D) (a b : Int) : Mp := mput (mput l a (r ++ [.b false])) b (r ++ [.b true])
def wm (n : Int) (S : Nat) : Nat → Mp
  | 0 => []
  | k + 1 => two (two (wm n S k) (frn n S (k + 1)) (pg n (4 * S + 2 - 2 * ((k + 1 : Nat) : Int))) (pg n (2 * ((k + 1 : Nat) : Int) - 1))) (bck n S (k + 1)) (pg n (2 * ((k + 1 : Nat) : Int))) (pg n (4 * S + 1 - 2 * ((k + 1 : Nat) : Int)))
def WR (n : Int) (S : Nat) (p : Int) : List D :=
  if p ≤ 2 * S then (if p % 2 = 1 then frn n S ((p + 1) / 2).toNat ++ [.b true] else bck n S (p / 2).toNat ++ [.b false])
  else (if p % 2 = 0 then frn n S ((4 * S + 2 - p) / 2).toNat ++ [.b false] else bck n S ((4 * S + 1 - p) / 2).toNat ++ [.b true])
theorem find_two (l : Mp) (r : List D) (a b q : Int) : mfind (two l r a b) q = if b = q then some (r ++ [.b true]) else if a = q then some (r ++ [.b false]) else mfind l q := by
  unfold two; rw [mfind_mput, mfind_mput]
theorem pg_eq {n x p : Int} (hp : 1 ≤ p ∧ p ≤ n) : pg n x = p ↔ x = p := by
  unfold pg; split <;> omega
theorem wm_in {n p : Int} {S : Nat} (hp : 1 ≤ p ∧ p ≤ n) (hS : n ≤ 4 * S) : ∀ k, k ≤ S → mfind (wm n S k) p = if p ≤ 2 * k ∨ p > 4 * S - 2 * k then some (WR n S p) else none
  | 0, hk => by rw [if_neg (by omega)]; rfl
  | k + 1, hk => by
    simp only [wm]
    rw [find_two, find_two, wm_in hp hS k (by omega)]
    simp only [pg_eq hp]
    by_cases h1 : 4 * (S : Int) + 1 - 2 * ((k + 1 : Nat) : Int) = p
    · rw [if_pos h1, if_pos (by omega)]
      unfold WR
      rw [if_neg (by omega), if_neg (by omega)]
      have : ((4 * (S : Int) + 1 - p) / 2).toNat = k + 1 := by omega
      rw [this]
    rw [if_neg h1]
    by_cases h2 : 2 * ((k + 1 : Nat) : Int) = p
    · rw [if_pos h2, if_pos (by omega)]
      unfold WR
      rw [if_pos (by omega), if_neg (by omega)]
      have : (p / 2).toNat = k + 1 := by omega
      rw [this]
    rw [if_neg h2]
    by_cases h3 : 2 * ((k + 1 : Nat) : Int) - 1 = p
    · rw [if_pos h3, if_pos (by omega)]
      unfold WR
      rw [if_pos (by omega), if_pos (by omega)]
      have : ((p + 1) / 2).toNat = k + 1 := by omega
      rw [this]
    rw [if_neg h3]
    by_cases h4 : 4 * (S : Int) + 2 - 2 * ((k + 1 : Nat) : Int) = p
    · rw [if_pos h4, if_pos (by omega)]
      unfold WR
      rw [if_neg (by omega), if_pos (by omega)]
      have : ((4 * (S : Int) + 2 - p) / 2).toNat = k + 1 := by omega
      rw [this]
    rw [if_neg h4]
    by_cases h5 : p ≤ 2 * (k : Int) ∨ p > 4 * (S : Int) - 2 * (k : Int)
    · rw [if_pos h5, if_pos (by omega)]
    · rw [if_neg h5, if_neg (by omega)]
theorem pg_no {n x p : Int} (hx : 0 ≤ x) (hn : 0 ≤ n) (hp : p < 0 ∨ p > n) : ¬ pg n x = p := by
  unfold pg; split <;> omega
theorem wm_out {n p : Int} {S : Nat} (hn : 0 ≤ n) (hp : p < 0 ∨ p > n) : ∀ k, k ≤ S → mfind (wm n S k) p = none
  | 0, _ => rfl
  | k + 1, hk => by
    simp only [wm]
    rw [find_two, find_two, wm_out hn hp k (by omega), if_neg (pg_no (by omega) hn hp), if_neg (pg_no (by omega) hn hp), if_neg (pg_no (by omega) hn hp), if_neg (pg_no (by omega) hn hp)]
def FV (d : List D) : V := .agg [.int .i64 (d.getD 0 (.n 0)).int, .test (d.getD 1 (.n 0)).bool, .int .i64 (d.getD 2 (.n 0)).int, .int .i64 (d.getD 3 (.n 0)).int]
def NV : V := .agg [.int .i64 0, .bool false, .int .i64 0, .int .i64 0]
def WV (n p : Int) : V := if Cn n then (if 1 ≤ p ∧ p ≤ n then .tup [FV (WR n (shs n) p), .test ((WR n (shs n) p).getD 4 (.n 0)).bool, .int .i64 0] else .tup [NV, .bool false, .int .i64 4]) else .tup [NV, .bool false, .int .i64 1]
theorem where_ok (n p : Int) : SemF Try.prog 27 [.int .i64 n, .int .i64 p] ⟨0, 0, []⟩ (fun v _ => v = WV n p ∧ nameless v = true) := by
  refine enter tt_ok Try.func27 (nt := 46) (cd := body Try.f27) rfl rfl rfl rfl ?_
  intro _
  refine count_test _ _ _ ?_
  intro _; refine ⟨fun g => ?_, fun g => ?_⟩
  · have g : (!decide (Cn n)) = true := g
    rw [Bool.not_eq_true'] at g
    have g := of_decide_eq_false g
    intro _
    refine ⟨?_, rfl⟩
    unfold WV; rw [if_neg g]; rfl
  have g : (!decide (Cn n)) = false := g
  rw [Bool.not_eq_false'] at g
  have hn := of_decide_eq_true g
  obtain ⟨N, hN⟩ : ∃ N : Nat, n = N := ⟨n.toNat, by have := hn.1; omega⟩
  have hN5 : N ≤ 500 := by have := hn.2; omega
  have eS0 : (n + 3).tdiv 4 = ((N + 3) / 4 : Nat) := by
    subst hN
    exact_mod_cast Int.ofNat_tdiv (N + 3) 4
  have eS : shs n = (N + 3) / 4 := by unfold shs; rw [eS0]; omega
  intro _
  refine enter tt_ok Try.func39 (nt := 10) (cd := body Try.f39) rfl rfl rfl rfl ?_
  intro _; refine ⟨by omega, ?_⟩
  intro _
  intro _
  refine range_ok ?_
  intro _
  refine enter tt_ok Try.func46 (nt := 51) (cd := body Try.f46) rfl rfl rfl rfl ?_
  have eS2 : IntKind.i64.wrap ((IntKind.i64.wrap (n + 3)).tdiv 4) = (shs n : Int) := by
    rw [wrapS (n + 3) ⟨by omega, by omega⟩, eS0, ← eS]
    exact wrapS _ ⟨by omega, by omega⟩
  intro _
  refine loop2 tt_ok [4] [1, 4] 8 (fun k : Fin (shs n + 1) => [(4, .int .i64 ((k : Nat) + 1))]) (fun k => [(1, .map .i64 [.int .i64, .bool, .int .i64, .int .i64, .bool] true (wm n (shs n) k)), (4, .cells [.int .i64 (shs n)])]) (fun k => shs n - k) ⟨0, by omega⟩ ?_
  intro _
  refine ⟨⟨th [] 8, rfl, rfl, rfl, rfl, rfl, rfl, ?_, ?_⟩, ?_⟩
  · (repeat' first | exact trivial | exact rfl | refine And.intro ?_ ?_)
  · (repeat' first | exact trivial | exact rfl | refine And.intro ?_ ?_)
    exact eS2.symm
  intro ⟨k, hk⟩
  intro _; refine ⟨fun g => ?_, fun g => ?_⟩
  · have g := of_decide_eq_true (show decide ((k : Int) + 1 ≤ (shs n : Int)) = true from g)
    have w4 : IntKind.i64.wrap (4 * (shs n : Int)) = 4 * (shs n : Int) := wrapS _ ⟨by omega, by omega⟩
    have w2 : IntKind.i64.wrap (2 * ((k : Int) + 1)) = 2 * ((k : Int) + 1) := wrapS _ ⟨by omega, by omega⟩
    have ec : ((k + 1 : Nat) : Int) = (k : Int) + 1 := rfl
    have eP1 : 4 * (shs n : Int) + 2 - 2 * ((k + 1 : Nat) : Int) = IntKind.i64.wrap (IntKind.i64.wrap (IntKind.i64.wrap (4 * (shs n : Int)) + 2) - IntKind.i64.wrap (2 * ((k : Int) + 1))) := by
      rw [w4, w2, wrapS (4 * (shs n : Int) + 2) ⟨by omega, by omega⟩, wrapS _ ⟨by omega, by omega⟩, ec]
    have eP2 : 2 * ((k + 1 : Nat) : Int) - 1 = IntKind.i64.wrap (IntKind.i64.wrap (2 * ((k : Int) + 1)) - 1) := by
      rw [w2, wrapS _ ⟨by omega, by omega⟩, ec]
    have eP3 : 2 * ((k + 1 : Nat) : Int) = IntKind.i64.wrap (2 * ((k : Int) + 1)) := by rw [w2, ec]
    have eP4 : 4 * (shs n : Int) + 1 - 2 * ((k + 1 : Nat) : Int) = IntKind.i64.wrap (IntKind.i64.wrap (IntKind.i64.wrap (4 * (shs n : Int)) + 1) - IntKind.i64.wrap (2 * ((k : Int) + 1))) := by
      rw [w4, w2, wrapS (4 * (shs n : Int) + 1) ⟨by omega, by omega⟩, wrapS _ ⟨by omega, by omega⟩, ec]
    intro _
    refine Or.inl ?_
    intro _
    refine call_pure [(0, some 3)] (page_ok n (4 * (shs n : Int) + 2 - 2 * ((k + 1 : Nat) : Int))) rfl rfl rfl ?_ ?_ ?_
    · (repeat' first | exact trivial | exact rfl | refine And.intro ?_ ?_)
    · (repeat' first | exact trivial | exact rfl | refine And.intro ?_ ?_)
      exact eP1
    intro v hv _
    subst hv
    intro _
    refine Or.inl ?_
    intro _
    refine call_pure [(0, some 3)] (page_ok n (2 * ((k + 1 : Nat) : Int) - 1)) rfl rfl rfl ?_ ?_ ?_
    · (repeat' first | exact trivial | exact rfl | refine And.intro ?_ ?_)
    · (repeat' first | exact trivial | exact rfl | refine And.intro ?_ ?_)
      exact eP2
    intro v hv _
    subst hv
    intro _
    refine ⟨by kernel_rfl, ?_⟩
    intro _
    refine Or.inl ?_
    intro _
    refine call_pure [(0, some 3)] (page_ok n (2 * ((k + 1 : Nat) : Int))) rfl rfl rfl ?_ ?_ ?_
    · (repeat' first | exact trivial | exact rfl | refine And.intro ?_ ?_)
    · (repeat' first | exact trivial | exact rfl | refine And.intro ?_ ?_)
      exact eP3
    intro v hv _
    subst hv
    intro _
    refine Or.inl ?_
    intro _
    refine call_pure [(0, some 3)] (page_ok n (4 * (shs n : Int) + 1 - 2 * ((k + 1 : Nat) : Int))) rfl rfl rfl ?_ ?_ ?_
    · (repeat' first | exact trivial | exact rfl | refine And.intro ?_ ?_)
    · (repeat' first | exact trivial | exact rfl | refine And.intro ?_ ?_)
      exact eP4
    intro v hv _
    subst hv
    intro _
    refine ⟨by kernel_rfl, ?_⟩
    intro _
    refine yield_ok tt_ok ?_
    intro _
    intro _
    refine yield_ok tt_ok ?_
    intro _
    refine ⟨⟨k + 1, by omega⟩, by simp; omega, th [] 8, rfl, rfl, rfl, rfl, rfl, rfl, ?_, ?_⟩
    · (repeat' first | exact trivial | exact rfl | refine And.intro ?_ ?_)
      show ((k + 1 : Nat) : Int) + 1 = IntKind.i64.wrap ((k : Int) + 1 + 1)
      rw [wrapS _ ⟨by omega, by omega⟩, ec]
    · (repeat' first | exact trivial | exact rfl | refine And.intro ?_ ?_)
  · have g := of_decide_eq_false (show decide ((k : Int) + 1 ≤ (shs n : Int)) = false from g)
    have hkl : k = shs n := by omega
    subst hkl
    intro _
    intro _
    have eN : ¬ (1 ≤ p ∧ p ≤ n) → V.tup [NV, .bool false, .int .i64 4] = WV n p ∧ nameless (V.tup [NV, .bool false, .int .i64 4]) = true := fun h => ⟨by unfold WV; rw [if_pos hn, if_neg h], rfl⟩
    have hS : n ≤ 4 * shs n := by omega
    refine ⟨fun g1 => ?_, fun g1 => ?_⟩
    · have g1 : p = 0 := by simpa using (show (p == 0) = true from g1)
      intro _
      exact eN (by omega)
    have g1 : ¬ p = 0 := by simpa using (show (p == 0) = false from g1)
    intro _
    refine ⟨fun g2 => ?_, fun g2 => ?_⟩
    · have g2 : (!(mfind (wm n (shs n) (shs n)) p).isSome) = true := g2
      intro _
      refine eN (fun h => ?_)
      rw [wm_in h hS (shs n) (Nat.le_refl _), if_pos (by omega)] at g2
      simp at g2
    have g2 : (!(mfind (wm n (shs n) (shs n)) p).isSome) = false := g2
    have hp : 1 ≤ p ∧ p ≤ n := by
      by_cases h : 1 ≤ p ∧ p ≤ n
      · exact h
      · rw [wm_out (S := shs n) hn.1 (by omega) (shs n) (Nat.le_refl _)] at g2
        simp at g2
    have eM : mfind (wm n (shs n) (shs n)) p = some (WR n (shs n) p) := by rw [wm_in hp hS (shs n) (Nat.le_refl _), if_pos (by omega)]
    intro _
    refine ⟨by kernel_rfl, ?_⟩
    intro _
    refine ⟨?_, rfl⟩
    unfold WV; rw [if_pos hn, if_pos hp]
    show V.tup [FV ((mfind (wm n (shs n) (shs n)) p).getD _), .test (((mfind (wm n (shs n) (shs n)) p).getD _).getD 4 (.n 0)).bool, .int .i64 0] = _
    rw [eM]; rfl
theorem WV_in {n p : Int} (hn : Cn n) (hp : 1 ≤ p ∧ p ≤ n) : WV n p = .tup [FV (WR n (shs n) p), .test ((WR n (shs n) p).getD 4 (.n 0)).bool, .int .i64 0] := by
  unfold WV; rw [if_pos hn, if_pos hp]
theorem wr4 (n : Int) (S : Nat) (p : Int) : ((WR n S p).getD 4 (.n 0)).bool = decide (p % 2 = 1) := by
  unfold WR
  by_cases h : p ≤ 2 * (S : Int)
  · rw [if_pos h]
    by_cases g : p % 2 = 1
    · rw [if_pos g, decide_eq_true g]; rfl
    · rw [if_neg g, decide_eq_false g]; rfl
  · rw [if_neg h]
    by_cases g : p % 2 = 0
    · rw [if_pos g, decide_eq_false (by omega)]; rfl
    · rw [if_neg g, decide_eq_true (by omega)]; rfl
theorem wr0 (n : Int) (S : Nat) (p : Int) : ((WR n S p).getD 0 (.n 0)).int = if p ≤ 2 * (S : Int) then (((p + 1) / 2).toNat : Int) else (((4 * S + 2 - p) / 2).toNat : Int) := by
  unfold WR
  by_cases h : p ≤ 2 * (S : Int)
  · rw [if_pos h, if_pos h]
    by_cases g : p % 2 = 1
    · rw [if_pos g]; rfl
    · rw [if_neg g]
      show ((p / 2).toNat : Int) = _
      have : p / 2 = (p + 1) / 2 := by omega
      rw [this]
  · rw [if_neg h, if_neg h]
    by_cases g : p % 2 = 0
    · rw [if_pos g]; rfl
    · rw [if_neg g]
      show (((4 * (S : Int) + 1 - p) / 2).toNat : Int) = _
      have : (4 * (S : Int) + 1 - p) / 2 = (4 * S + 2 - p) / 2 := by omega
      rw [this]
theorem wr1 (n : Int) (S : Nat) (p : Int) : ((WR n S p).getD 1 (.n 0)).bool = if p ≤ 2 * (S : Int) then decide (p % 2 = 0) else decide (p % 2 = 1) := by
  unfold WR
  by_cases h : p ≤ 2 * (S : Int)
  · rw [if_pos h, if_pos h]
    by_cases g : p % 2 = 1
    · rw [if_pos g, decide_eq_false (by omega)]; rfl
    · rw [if_neg g, decide_eq_true (by omega)]; rfl
  · rw [if_neg h, if_neg h]
    by_cases g : p % 2 = 0
    · rw [if_pos g, decide_eq_false (by omega)]; rfl
    · rw [if_neg g, decide_eq_true (by omega)]; rfl
theorem rem_in (p n : Int) (hn : 1 ≤ n ∧ n ≤ 500) : -500 ≤ p.tmod n ∧ p.tmod n ≤ 500 ∧ 0 ≤ (p.tmod n + n).tmod n ∧ (p.tmod n + n).tmod n < n := by
  have h1 := Int.tmod_lt_of_pos p (b := n) (by omega)
  have h2 : -n < p.tmod n := by
    have e := Int.tmod_eq_emod (a := p) (b := n)
    have e1 := Int.emod_nonneg p (b := n) (by omega)
    rw [e]
    split
    · omega
    · rw [Int.natAbs_of_nonneg (by omega)]
      rename_i g
      have : p % n ≠ 0 := fun h => g (.inr (Int.dvd_of_emod_eq_zero h))
      omega
  exact ⟨by omega, by omega, Int.tmod_nonneg _ (by omega), Int.tmod_lt_of_pos _ (by omega)⟩
theorem law12 (n p : Int) (hp : -9223372036854775808 ≤ p ∧ p ≤ 9223372036854775807) : SemF Try.prog 12 [.int .i64 n, .int .i64 p] ⟨0, 0, []⟩ (fun v _ => IsTrue v) := by
  refine enter tt_ok Try.func12 (nt := 85) (cd := body Try.f12) rfl rfl rfl rfl ?_
  intro _
  refine head_ok rfl Try.func23 (cd := body Try.f23) rfl ?_
  intro _; refine ⟨fun g => ?_, fun g => ?_⟩
  · intro _
    show true = true
    rfl
  have g1 := of_decide_eq_false (show decide (n < 1) = false from g)
  intro _; refine ⟨fun g => ?_, fun g => ?_⟩
  · intro _
    show true = true
    rfl
  have g2 := of_decide_eq_false (show decide (n > 500) = false from g)
  have hn : Cn n := ⟨by omega, by omega⟩
  obtain ⟨b1, b2, b3⟩ := shs_bd hn
  have hr := rem_in p n ⟨by omega, by omega⟩
  obtain ⟨q, hq⟩ : ∃ q : Int, q = 1 + (p.tmod n + n).tmod n := ⟨_, rfl⟩
  have hq1 : 1 ≤ q ∧ q ≤ n := by omega
  have eq : IntKind.i64.wrap (1 + (IntKind.i64.wrap (p.tmod n + n)).tmod n) = q := by
    rw [wrapS (p.tmod n + n) ⟨by omega, by omega⟩, ← hq]
    exact wrapS _ ⟨by omega, by omega⟩
  have e2 : q.tmod 2 = q % 2 := Int.tmod_eq_emod_of_nonneg (by omega)
  have no : ∀ (p : Int) (P : Prop), (p == p) = false → P := fun p P h2 => absurd (show (p == p) = true by simp) (by rw [h2]; simp)
  intro _; refine ⟨by omega, ?_⟩
  intro _; refine ⟨by omega, ?_⟩
  intro _
  refine call_pure [] (where_ok n q) rfl rfl rfl ?_ ?_ ?_
  · (repeat' first | exact trivial | exact rfl | refine And.intro ?_ ?_)
  · (repeat' first | exact trivial | exact rfl | refine And.intro ?_ ?_)
    · exact eq.symm
  intro v hv _
  rw [WV_in hn hq1] at hv
  subst hv
  have e3 : (IntKind.i64.wrap (1 + (IntKind.i64.wrap (p.tmod n + n)).tmod n)).tmod 2 = q % 2 := by rw [eq, e2]
  intro _; refine ⟨fun g => by simp at g, fun _ => ?_⟩
  intro _; refine ⟨by omega, ?_⟩
  intro _; refine ⟨fun g => ?_, fun _ => ?_⟩
  · exfalso
    have g : (((WR n (shs n) q).getD 4 (.n 0)).bool != ((IntKind.i64.wrap (1 + (IntKind.i64.wrap (p.tmod n + n)).tmod n)).tmod 2 == 1)) = true := g
    rw [wr4, e3] at g
    by_cases k : q % 2 = 1
    · rw [k] at g; simp at g
    · have : (q % 2 == 1) = false := by simpa using k
      rw [this, decide_eq_false k] at g; simp at g
  intro _; refine ⟨by omega, ?_⟩
  intro _; refine ⟨fun _ => ?_, fun g => ?_⟩
  · intro _
    show true = true
    rfl
  have g3 : ¬ q % 2 = 0 := by
    have g : ((IntKind.i64.wrap (1 + (IntKind.i64.wrap (p.tmod n + n)).tmod n)).tmod 2 == 0) = false := g
    rw [e3] at g
    simpa using g
  intro _; refine ⟨fun _ => ?_, fun g => ?_⟩
  · intro _
    show true = true
    rfl
  have g4 : ¬ q = n := by
    have g : (IntKind.i64.wrap (1 + (IntKind.i64.wrap (p.tmod n + n)).tmod n) == n) = false := g
    rw [eq] at g
    simpa using g
  intro _
  refine call_pure [] (where_ok n (q + 1)) rfl rfl rfl ?_ ?_ ?_
  · (repeat' first | exact trivial | exact rfl | refine And.intro ?_ ?_)
  · (repeat' first | exact trivial | exact rfl | refine And.intro ?_ ?_)
    · rw [eq]; exact (wrapS _ ⟨by omega, by omega⟩).symm
  intro v hv _
  rw [WV_in hn (p := q + 1) ⟨by omega, by omega⟩] at hv
  subst hv
  intro _; refine ⟨fun _ => ?_, fun k => by simp at k⟩
  intro _; refine ⟨fun _ => ?_, fun k => ?_⟩
  rotate_left
  · exfalso
    have k : (!((WR n (shs n) (q + 1)).getD 4 (.n 0)).bool) = false := k
    rw [wr4, decide_eq_false (by omega)] at k
    simp at k
  intro _; refine ⟨fun _ => ?_, fun k => ?_⟩
  rotate_left
  · exfalso
    have k : (((WR n (shs n) q).getD 0 (.n 0)).int == ((WR n (shs n) (q + 1)).getD 0 (.n 0)).int) = false := k
    rw [wr0, wr0] at k
    have : (if q ≤ 2 * (shs n : Int) then (((q + 1) / 2).toNat : Int) else (((4 * (shs n : Int) + 2 - q) / 2).toNat : Int)) = (if q + 1 ≤ 2 * (shs n : Int) then (((q + 1 + 1) / 2).toNat : Int) else (((4 * (shs n : Int) + 2 - (q + 1)) / 2).toNat : Int)) := by
      split <;> split <;> omega
    rw [this] at k; simp at k
  intro _
  show (((WR n (shs n) q).getD 1 (.n 0)).bool != ((WR n (shs n) (q + 1)).getD 1 (.n 0)).bool) = true
  rw [wr1, wr1]
  by_cases h : q ≤ 2 * (shs n : Int)
  · rw [if_pos h, if_pos (by omega), decide_eq_false (by omega), decide_eq_true (by omega)]; rfl
  · rw [if_neg h, if_neg (by omega), decide_eq_true (by omega), decide_eq_false (by omega)]; rfl
theorem WV_in2 {n p : Int} (hn : Cn n) (hp : 1 ≤ p ∧ p ≤ n) : WV n p = .tup [FV (WR n (shs n) p), .test ((WR n (shs n) p).getD 4 (.n 0)).bool, .int .i64 0] := by
  unfold WV; rw [if_pos hn, if_pos hp]
theorem WV_out {n p : Int} (hn : Cn n) (hp : ¬ (1 ≤ p ∧ p ≤ n)) : WV n p = .tup [NV, .bool false, .int .i64 4] := by
  unfold WV; rw [if_pos hn, if_neg hp]
theorem wr_face {n p : Int} {S : Nat} (hp : 1 ≤ p ∧ p ≤ n) (hS : n ≤ 4 * S) : ∃ i, i < 2 * S ∧ ∃ s x, ((fcs n S S).getD i [] = frn n S s ∧ WR n S p = frn n S s ++ [x]) ∨ ((fcs n S S).getD i [] = bck n S s ∧ WR n S p = bck n S s ++ [x]) := by
  unfold WR
  by_cases h : p ≤ 2 * (S : Int)
  · rw [if_pos h]
    by_cases g : p % 2 = 1
    · rw [if_pos g]
      refine ⟨2 * (((p + 1) / 2).toNat - 1), by omega, ((p + 1) / 2).toNat, _, .inl ⟨?_, rfl⟩⟩
      rw [fcs_get n S S _ (by omega), if_pos (by omega)]
      congr 1; omega
    · rw [if_neg g]
      refine ⟨2 * ((p / 2).toNat - 1) + 1, by omega, (p / 2).toNat, _, .inr ⟨?_, rfl⟩⟩
      rw [fcs_get n S S _ (by omega), if_neg (by omega)]
      congr 1; omega
  · rw [if_neg h]
    by_cases g : p % 2 = 0
    · rw [if_pos g]
      refine ⟨2 * (((4 * S + 2 - p) / 2).toNat - 1), by omega, ((4 * S + 2 - p) / 2).toNat, _, .inl ⟨?_, rfl⟩⟩
      rw [fcs_get n S S _ (by omega), if_pos (by omega)]
      congr 1; omega
    · rw [if_neg g]
      refine ⟨2 * (((4 * S + 1 - p) / 2).toNat - 1) + 1, by omega, ((4 * S + 1 - p) / 2).toNat, _, .inr ⟨?_, rfl⟩⟩
      rw [fcs_get n S S _ (by omega), if_neg (by omega)]
      congr 1; omega
def EQ (a b : List D) : Bool := ((a.getD 0 (.n 0)).int == (b.getD 0 (.n 0)).int) && (((a.getD 1 (.n 0)).bool == (b.getD 1 (.n 0)).bool) && (((a.getD 2 (.n 0)).int == (b.getD 2 (.n 0)).int) && ((a.getD 3 (.n 0)).int == (b.getD 3 (.n 0)).int)))
theorem EQ_face {n p : Int} {S : Nat} (hp : 1 ≤ p ∧ p ≤ n) (hS : n ≤ 4 * S) : ∃ i, i < 2 * S ∧ EQ ((fcs n S S).getD i []) (WR n S p) = true := by
  obtain ⟨i, hi, s, x, ⟨e1, e2⟩ | ⟨e1, e2⟩⟩ := wr_face hp hS
  · refine ⟨i, hi, ?_⟩
    rw [e1, e2]; simp [EQ, frn]
  · refine ⟨i, hi, ?_⟩
    rw [e1, e2]; simp [EQ, bck]
theorem wr23 {n p : Int} {S : Nat} (hp : 1 ≤ p ∧ p ≤ n) (hS : n ≤ 4 * S) : if p % 2 = 1 then ((WR n S p).getD 3 (.n 0)).int = p else ((WR n S p).getD 2 (.n 0)).int = p := by
  unfold WR
  by_cases h : p ≤ 2 * (S : Int)
  · rw [if_pos h]
    by_cases g : p % 2 = 1
    · rw [if_pos g, if_pos g]
      show pg n (2 * ((((p + 1) / 2).toNat : Nat) : Int) - 1) = p
      rw [pg_eq hp]; omega
    · rw [if_neg g, if_neg g]
      show pg n (2 * (((p / 2).toNat : Nat) : Int)) = p
      rw [pg_eq hp]; omega
  · rw [if_neg h]
    by_cases g : p % 2 = 0
    · rw [if_pos g, if_neg (by omega)]
      show pg n (4 * S + 2 - 2 * ((((4 * (S : Int) + 2 - p) / 2).toNat : Nat) : Int)) = p
      rw [pg_eq hp]; omega
    · rw [if_neg g, if_pos (by omega)]
      show pg n (4 * S + 1 - 2 * ((((4 * (S : Int) + 1 - p) / 2).toNat : Nat) : Int)) = p
      rw [pg_eq hp]; omega
def acc (n p : Int) (S : Nat) : Nat → Bool
  | 0 => false
  | k + 1 => if acc n p S k = true then true else EQ ((fcs n S S).getD k []) (WR n S p)
theorem acc_in {n p : Int} {S i : Nat} (h : EQ ((fcs n S S).getD i []) (WR n S p) = true) : ∀ k, i < k → acc n p S k = true
  | 0, hk => by omega
  | k + 1, hk => by
    simp only [acc]
    rcases Nat.lt_or_ge i k with e | e
    · rw [if_pos (acc_in h k e)]
    · have : i = k := by omega
      subst this
      split
      · rfl
      · exact h
theorem law14 (n p : Int) : SemF Try.prog 14 [.int .i64 n, .int .i64 p] ⟨0, 0, []⟩ (fun v _ => IsTrue v) := by
  refine enter tt_ok Try.func14 (nt := 100) (cd := body Try.f14) rfl rfl rfl rfl ?_
  intro _
  refine head_ok rfl Try.func23 (cd := body Try.f23) rfl ?_
  intro _
  refine call_new [] (lfaces_all n) rfl rfl rfl rfl ?_ ?_ ?_
  · (repeat' first | exact trivial | exact rfl | refine And.intro ?_ ?_)
  · (repeat' first | exact trivial | exact rfl | refine And.intro ?_ ?_)
  intro v h' hv
  obtain ⟨rfl, rfl⟩ := hv
  refine ⟨[(0, some 0)], 1, [(0, .arr [.int .i64, .bool, .int .i64, .int .i64] .grow (.recs (fr n).1))], VF n, rfl, rfl, rfl, rfl, rfl, ?_, ?_, ?_⟩
  · (repeat' first | exact trivial | exact rfl | refine And.intro ?_ ?_)
  · (repeat' first | exact trivial | exact rfl | refine And.intro ?_ ?_)
  intro _; refine ⟨fun g => ?_, fun g => ?_⟩
  · intro _
    show true = true
    rfl
  have g : (!decide (Cn n)) = false := g
  rw [Bool.not_eq_false'] at g
  have hn := of_decide_eq_true g
  have e : (fr n).1 = fcs n (shs n) (shs n) := by unfold fr; rw [if_pos hn]
  have eL : List.length (fr n).1 = 2 * shs n := by rw [e]; exact fcs_len _ _ _
  obtain ⟨b1, b2, b3⟩ := shs_bd hn
  intro _; refine ⟨fun g => by simp at g, fun _ => ?_⟩
  intro _
  refine call_pure [] (where_ok n p) rfl rfl rfl ?_ ?_ ?_
  · (repeat' first | exact trivial | exact rfl | refine And.intro ?_ ?_)
  · (repeat' first | exact trivial | exact rfl | refine And.intro ?_ ?_)
  intro v hv _
  by_cases hp : 1 ≤ p ∧ p ≤ n
  rotate_left
  · rw [WV_out hn hp] at hv
    subst hv
    intro _; refine ⟨fun g => ?_, fun g => ?_⟩
    · intro _; refine ⟨fun _ => ?_, fun k => absurd (show true = false from k) (by decide)⟩
      intro _; refine ⟨fun _ => ?_, fun k => absurd (show true = false from k) (by decide)⟩
      intro _
      show true = true
      rfl
    · have g := of_decide_eq_false (show decide (p < 1) = false from g)
      intro _; refine ⟨fun g => ?_, fun g => ?_⟩
      · intro _; refine ⟨fun _ => ?_, fun k => absurd (show true = false from k) (by decide)⟩
        intro _; refine ⟨fun _ => ?_, fun k => absurd (show true = false from k) (by decide)⟩
        intro _
        show true = true
        rfl
      · have g := of_decide_eq_false (show decide (p > n) = false from g)
        exact absurd ⟨by omega, by omega⟩ hp
  rw [WV_in2 hn hp] at hv
  subst hv
  intro _; refine ⟨fun g => ?_, fun _ => ?_⟩
  · have g := of_decide_eq_true (show decide (p < 1) = true from g)
    omega
  intro _; refine ⟨fun g => ?_, fun _ => ?_⟩
  · have g := of_decide_eq_true (show decide (p > n) = true from g)
    omega
  intro _
  refine loop2 tt_ok [12, 62] [] 2 (fun k : Fin (2 * shs n + 1) => [(12, .test (acc n p (shs n) (k : Nat))), (62, .int .i64 (k : Nat))]) (fun _ => []) (fun k => 2 * shs n - k) ⟨0, by omega⟩ ?_
  intro _
  refine ⟨⟨th [] 2, rfl, rfl, rfl, rfl, rfl, rfl, ?_, ?_⟩, ?_⟩
  · (repeat' first | exact trivial | exact rfl | refine And.intro ?_ ?_)
  · (repeat' first | exact trivial | exact rfl | refine And.intro ?_ ?_)
  intro ⟨k, hk⟩
  intro _; refine ⟨fun g => ?_, fun g => ?_⟩
  · have g := of_decide_eq_true (show decide ((k : Int) < ((fr n).1.length : Int)) = true from g)
    have hk2 : k < 2 * shs n := by omega
    have e3 : (k : Int).toNat = k := by omega
    intro _; refine ⟨show 0 ≤ (k : Int) ∧ (k : Int) < ((fr n).1.length : Int) by omega, ?_⟩
    intro _; refine ⟨show (k : Int).toNat < (fr n).1.length by omega, ?_⟩
    intro _; refine ⟨fun g4 => ?_, fun g4 => ?_⟩
    · have g4 : acc n p (shs n) k = true := g4
      refine ⟨⟨k + 1, by omega⟩, by simp; omega, th [] 2, rfl, rfl, rfl, rfl, rfl, rfl, ?_, ?_⟩
      · (repeat' first | exact trivial | exact rfl | refine And.intro ?_ ?_)
        · show acc n p (shs n) (k + 1) = true
          simp only [acc, if_pos g4]
        · exact (wrap_nat k (by omega)).symm
      · (repeat' first | exact trivial | exact rfl | refine And.intro ?_ ?_)
    · have g4 : acc n p (shs n) k = false := g4
      refine ⟨⟨k + 1, by omega⟩, by simp; omega, th [] 2, rfl, rfl, rfl, rfl, rfl, rfl, ?_, ?_⟩
      · (repeat' first | exact trivial | exact rfl | refine And.intro ?_ ?_)
        · show acc n p (shs n) (k + 1) = EQ ((fr n).1.getD (k : Int).toNat []) (WR n (shs n) p)
          rw [e3, e]
          simp only [acc, g4]
          rfl
        · exact (wrap_nat k (by omega)).symm
      · (repeat' first | exact trivial | exact rfl | refine And.intro ?_ ?_)
  · have g := of_decide_eq_false (show decide ((k : Int) < ((fr n).1.length : Int)) = false from g)
    have hkl : k = 2 * shs n := by omega
    subst hkl
    have hS : n ≤ 4 * shs n := by omega
    obtain ⟨i, hi, hE⟩ := EQ_face hp hS
    have hA := acc_in hE (2 * shs n) hi
    have h23 := wr23 hp hS
    have h4 := wr4 n (shs n) p
    intro _; refine ⟨fun _ => ?_, fun k => absurd (show true = false from k) (by decide)⟩
    intro _; refine ⟨fun _ => ?_, fun k => ?_⟩
    rotate_left
    · have k : acc n p (shs n) (2 * shs n) = false := k
      rw [hA] at k; cases k
    intro _; refine ⟨fun k => ?_, fun k => ?_⟩
    · have k : ((WR n (shs n) p).getD 4 (.n 0)).bool = true := k
      rw [h4] at k
      have k := of_decide_eq_true k
      rw [if_pos k] at h23
      intro _; refine ⟨fun _ => ?_, fun g => ?_⟩
      · intro _
        show true = true
        rfl
      · exfalso
        have g : (((WR n (shs n) p).getD 3 (D.n 0)).int == p) = false := g
        rw [h23] at g; simp at g
    · have k : ((WR n (shs n) p).getD 4 (.n 0)).bool = false := k
      rw [h4] at k
      have k := of_decide_eq_false k
      rw [if_neg k] at h23
      intro _; refine ⟨fun _ => ?_, fun g => ?_⟩
      · intro _
        show (((WR n (shs n) p).getD 2 (D.n 0)).int == p) = true
        rw [h23]; simp
      · exfalso
        have g : (!((WR n (shs n) p).getD 4 (.n 0)).bool) = false := g
        rw [h4, decide_eq_false k] at g; cases g

theorem walk (w : World) (n : Int) (w_n : (Lit.int .i64 n).wf = true) (p : Int) (w_p : (Lit.int .i64 p).wf = true) :
    Calls Try.prog 14 #[.int .i64 n, .int .i64 p] w fun e w' => e = .returned (.bool true) ∧ Below w.heap.size w w' := by
  have b_n := w_n
  simp [Lit.wf, IntKind.min, IntKind.max, IntKind.signed, IntKind.bits] at b_n
  have b_p := w_p
  simp [Lit.wf, IntKind.min, IntKind.max, IntKind.signed, IntKind.bits] at b_p
  exact top_run (by kernel_rfl) (by kernel_rfl) (T := [23]) (fun f hf w => by
      rcases List.mem_cons.1 hf with e | e
      · subst e; exact head w
      · exact (List.not_mem_nil e).elim) (l := []) (args := [.int .i64 n, .int .i64 p]) («as» := [.int .i64 n, .int .i64 p]) (cargs := [.int .i64 n, .int .i64 p]) w
    (fun s h => by
      exact (List.not_mem_nil h).elim)
    (Cvs.cons mk_int (Cvs.cons mk_int Cvs.nil))
    (by simp only [Go.Vm.convs, Go.Vm.conv]; rw [])
    (law14 n p)

set_option maxRecDepth 100000 in
theorem lifted (os : Os) (started : os.Started) (H : Type) (enc : TypeId × Value → H) :
    ReturnsInHanded {} Try.checked os 14 .any (Rows.imposeWhereSpec.pre6 enc Try.prog Try.f14 Rows.imposeWhereRow.domain false) (Rows.imposeWhereSpec.post enc Try.prog Try.f14 false true false false) := by
  refine returnsInHanded_of_change (C := Try.checked) own started (by kernel_rfl) Try.func14
    (ChangeSpec.witness6 (enc := enc) (C := Try.checked) false ⟨#[], #[.int .i64 0, .int .i64 0], []⟩ 8 (by kernel_rfl) (by kernel_rfl) (by kernel_rfl) (by kernel_rfl)) ?_
  intro W base args ds gs before hval0 hW hcnd _
  have hval : ∀ (j : Nat) t v, Try.f14.params[j]? = some t → args[j]? = some v → Value.okWide Try.prog W .any base t v := hval0
  have hW' := hW
  obtain ⟨p, q, hA0, hV, rfl, hfz, hnd⟩ := hW
  have hA : DataW.TrodAll enc Try.prog W 0 (fun _ => true) true Try.f14.params.toList args.toList ds p := hA0
  rw [Try.params14] at hA hval
  obtain ⟨v0, vs0, d0, ds0, p0, q0, hargs, rfl, rfl, h0, r0⟩ := trodAll_cons hA
  obtain ⟨v1, vs1, d1, ds1, p1, q1, rfl, rfl, rfl, h1, r1⟩ := trodAll_cons r0
  obtain ⟨rfl, rfl, rfl⟩ := trodAll_nil r1
  obtain rfl : args = #[v0, v1] := by cases args; simp_all
  obtain ⟨rfl, rfl⟩ := trodVars_none hV
  obtain ⟨n, rfl, rfl, rfl, w_n⟩ := open_int Try.underlying3 (hval 0 3 v0 rfl rfl) h0
  obtain ⟨p, rfl, rfl, rfl, w_p⟩ := open_int Try.underlying3 (hval 1 3 v1 rfl rfl) h1
  clear hA0 hval0
  refine (walk W n w_n p w_p).mono fun e W' ⟨he, hg⟩ => ?_
  subst he
  exact ⟨_, rfl, _, _, _, [], _, [], hW', trodAll_cons_mk (shut_bool Try.underlying4 _) trodAll_mk0, (trodAll_cons_mk (shut_int Try.underlying3 w_n) (trodAll_cons_mk (shut_int Try.underlying3 w_p) trodAll_mk0)), rfl, hg.frame _, fun h => by cases h⟩

theorem over : Rows.imposeWhereRow.holds Try.pinned (OpenSpec.ofChange Rows.imposeWhereSpec) :=
  OpenClaim.holds_of_wide 14 Try.f14 rfl rfl rfl rfl rfl rfl rfl ⟨rfl, rfl, rfl, rfl, rfl⟩ rfl rfl rfl rfl rfl (by kernel_rfl) Try.func14 (by kernel_rfl)
    (of_decide_eq_true (by kernel_rfl)) (by unfold Func.isWrapper; first | (rw [if_pos (by decide +kernel)]; kernel_rfl) | (rw [if_neg (by decide +kernel)]; exact ⟨rfl, rfl⟩))
    (fun os started H enc _ => lifted os started H enc)

/-- the statement -/
theorem proved : Rows.ImposeWhereSaid :=
  over
#print axioms proved
end Go.Proofs.Ytkphagflnhnfkaa.imposeWhere
