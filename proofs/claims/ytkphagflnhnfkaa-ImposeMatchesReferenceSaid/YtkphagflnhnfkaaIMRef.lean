/-
  ImposeMatchesReference: whatever the arguments, the law returns true, and its arguments read as before. No conditions.
-/
import Derived.Test.YtkphagflnhnfkaaRows
import Derived.Test.YtkphagflnhnfkaaVwOpen2
import Derived.Test.YtkphagflnhnfkaaVwRules6
import Derived.Test.YtkphagflnhnfkaaVmSym
import Derived.WalkKit
import Derived.ProofKit
import Derived.OpenShut
import Derived.Carry
namespace Go.Proofs.Ytkphagflnhnfkaa.imposeMatchesReference
open Go.ChangeShapes Go.WideShapes Go.ChangeAt Go.RowKit
open Go.Vm (Facts Val Sound)
open Go.Vm2
set_option linter.unusedVariables false
set_option linter.unusedSectionVars false

theorem own : ownKnob Try.prog.godebug = none := by kernel_rfl
theorem laidOut : laidOutB Try.prog = true := by kernel_rfl
def ts : List Nat := [53, 3, 41, 46, 25, 4, 65, 67, 22, 76]
def tt : Go.Vm2.TT := [
  (53, ⟨(.map .i64 3), false, 1, .nilm, true⟩),
  (3, ⟨(.int .i64), false, 1, .int .i64 (0), true⟩),
  (41, ⟨(.slice 46 4 32 [.int .i64, .bool, .int .i64, .int .i64]), false, 1, .nils, true⟩),
  (46, ⟨(.struct [⟨0, 1, false⟩, ⟨1, 1, false⟩, ⟨2, 1, false⟩, ⟨3, 1, false⟩]), true, 4, .agg [.int .i64 (0), .bool false, .int .i64 (0), .int .i64 (0)], true⟩),
  (25, ⟨(.int .i64), false, 1, .int .i64 (0), true⟩),
  (4, ⟨.bool, false, 1, .bool false, true⟩),
  (65, ⟨(.map .i64 67), false, 1, .nilm, true⟩),
  (67, ⟨(.struct [⟨0, 4, true⟩, ⟨4, 1, false⟩]), true, 5, .agg [.int .i64 (0), .bool false, .int .i64 (0), .int .i64 (0), .bool false], false⟩),
  (22, ⟨(.slice 3 1 8 [.int .i64]), false, 1, .nils, true⟩),
  (76, ⟨.other, false, 1, .nilf, true⟩)]
theorem tt_mk : mkTT Try.prog ts = some tt := by kernel_rfl
theorem head (w : World) : Calls Try.prog 23 #[] w fun e w' => e = .returned (.bool true) ∧ Below w.heap.size w w' :=
  Go.Vm.head_run (by kernel_rfl) (by kernel_rfl) (n := 1000000) (by kernel_rfl) w
instance facts : Facts := ⟨[], [23], false⟩
instance val : Val := ⟨fun _ => 0⟩
instance sound : Sound := ⟨fun f hf => (List.not_mem_nil hf).elim⟩
theorem tt_ok : TTok Try.prog tt := ttok_mk tt_mk
def body (f : Func) : Code := match f.body with | some c => c | none => .skip
set_option maxRecDepth 100000
theorem wrap_nat (k : Nat) (h : k < 9223372036854775807) : IntKind.i64.wrap ((k : Int) + 1) = ((k + 1 : Nat) : Int) := by
  rw [IntKind.wrap_i64]; omega
theorem wrapS (n : Int) (h : -9000000000000000000 ≤ n ∧ n ≤ 9000000000000000000) : IntKind.i64.wrap n = n := by rw [IntKind.wrap_i64]; omega
abbrev Rows := List (List D)
def K4 : List CK := [.int .i64, .bool, .int .i64, .int .i64]
def Cn (n : Int) : Prop := 0 ≤ n ∧ n ≤ 500
instance decCn (n : Int) : Decidable (Cn n) := inferInstanceAs (Decidable (_ ∧ _))
theorem count_test (n : Int) (h : H) (K : V → H → Prop) (hK : K (.test (decide (Cn n))) h) : SemF Try.prog 38 [.int .i64 n] h K := by
  refine SemF.test ?_
  refine enter tt_ok Try.func38 (nt := 9) (cd := body Try.f38) rfl rfl rfl rfl ?_
  intro _; refine ⟨fun g => ?_, fun g => ?_⟩
  · have g := of_decide_eq_true (show decide (n ≥ 0) = true from g)
    intro _
    refine ⟨_, .inr rfl, ?_⟩
    have : decide (Cn n) = decide (n ≤ 500) := by
      by_cases e : n ≤ 500
      · rw [decide_eq_true e, decide_eq_true (show Cn n from ⟨by omega, e⟩)]
      · rw [decide_eq_false e, decide_eq_false (fun m => e m.2)]
    rw [← this]; exact hK
  · have g := of_decide_eq_false (show decide (n ≥ 0) = false from g)
    intro _
    refine ⟨false, .inl rfl, ?_⟩
    have : decide (Cn n) = false := decide_eq_false (fun m => by have := m.1; omega)
    rw [← this]; exact hK
def pg (n p : Int) : Int := if p > n then 0 else p
theorem page_ok (n p : Int) : SemF Try.prog 45 [.int .i64 p, .ptr 0 0] ⟨1, 1, [(0, .cells [.int .i64 n])]⟩ (fun v _ => v = .int .i64 (pg n p) ∧ nameless v = true) := by
  refine enter tt_ok Try.func45 (nt := 8) (cd := body Try.f45) rfl rfl rfl rfl ?_
  intro _; refine ⟨fun g => ?_, fun g => ?_⟩
  · have g := of_decide_eq_true (show decide (p > n) = true from g)
    intro _
    refine ⟨?_, rfl⟩
    unfold pg; rw [if_pos g]
  · have g := of_decide_eq_false (show decide (p > n) = false from g)
    intro _
    refine ⟨?_, rfl⟩
    unfold pg; rw [if_neg g]
def frn (n : Int) (S s : Nat) : List D := [.n s, .b false, .n (pg n (4 * S + 2 - 2 * s)), .n (pg n (2 * s - 1))]
def bck (n : Int) (S s : Nat) : List D := [.n s, .b true, .n (pg n (2 * s)), .n (pg n (4 * S + 1 - 2 * s))]
def fcs (n : Int) (S : Nat) : Nat → Rows
  | 0 => []
  | k + 1 => fcs n S k ++ [frn n S (k + 1)] ++ [bck n S (k + 1)]
theorem fcs_len (n : Int) (S : Nat) : ∀ k, List.length (fcs n S k) = 2 * k
  | 0 => rfl
  | k + 1 => by simp only [fcs, List.length_append, fcs_len n S k, List.length_cons, List.length_nil]; omega
def shs (n : Int) : Nat := ((n + 3).tdiv 4).toNat
def fr (n : Int) : Rows × Int := if Cn n then (fcs n (shs n) (shs n), 0) else ([], 1)
def FQ (n : Int) : V → H → Prop := fun v h' => v = .tup [.grw 0 (fr n).1.length, .int .i64 (fr n).2] ∧ h' = ⟨1, 0, [(0, .arr [.int .i64, .bool, .int .i64, .int .i64] .grow (.recs (fr n).1))]⟩
theorem faces_all (n : Int) : SemF Try.prog 24 [.int .i64 n] ⟨0, 0, []⟩ (FQ n) := by
  refine SemF.ret ?_
  refine enter tt_ok Try.func24 (nt := 17) (cd := body Try.f24) rfl rfl rfl rfl ?_
  intro _
  refine count_test _ _ _ ?_
  intro _; refine ⟨fun g => ?_, fun g => ?_⟩
  · have g : (!decide (Cn n)) = true := g
    rw [Bool.not_eq_true'] at g
    have g := of_decide_eq_false g
    have e : fr n = ([], 1) := by unfold fr; rw [if_neg g]
    intro _
    refine ⟨[(0, none)], .tup [.grw 0 0, .int .i64 1], ⟨1, 0, [(0, .arr [.int .i64, .bool, .int .i64, .int .i64] .grow (.recs []))]⟩, rfl, rfl, rfl, rfl, ?_, ?_, ?_, ?_⟩
    · (repeat' first | exact trivial | exact rfl | refine And.intro ?_ ?_)
    · (repeat' first | exact trivial | exact rfl | refine And.intro ?_ ?_)
    · rw [e]; rfl
    · rw [e]
  have g : (!decide (Cn n)) = false := g
  rw [Bool.not_eq_false'] at g
  have hn := of_decide_eq_true g
  have e : fr n = (fcs n (shs n) (shs n), 0) := by unfold fr; rw [if_pos hn]
  obtain ⟨N, hN⟩ : ∃ N : Nat, n = N := ⟨n.toNat, by have := hn.1; omega⟩
  have hN5 : N ≤ 500 := by have := hn.2; omega
  have eS0 : (n + 3).tdiv 4 = ((N + 3) / 4 : Nat) := by
    subst hN
    exact_mod_cast Int.ofNat_tdiv (N + 3) 4
  have eS : shs n = (N + 3) / 4 := by unfold shs; rw [eS0]; omega
  intro _
  refine enter tt_ok Try.func39 (nt := 10) (cd := body Try.f39) rfl rfl rfl rfl ?_
  intro _; refine ⟨by omega, ?_⟩
  intro _
  intro _
  refine range_ok ?_
  intro _
  refine enter tt_ok Try.func46 (nt := 51) (cd := body Try.f46) rfl rfl rfl rfl ?_
  have eS2 : IntKind.i64.wrap ((IntKind.i64.wrap (n + 3)).tdiv 4) = (shs n : Int) := by
    rw [wrapS (n + 3) ⟨by omega, by omega⟩, eS0, ← eS]
    exact wrapS _ ⟨by omega, by omega⟩
  intro _
  refine loop2 tt_ok [4] [0, 2] 7 (fun k : Fin (shs n + 1) => [(4, .int .i64 ((k : Nat) + 1))]) (fun k => [(0, .cells [.grw 6 (2 * k)]), (2, .cells [.int .i64 (shs n)]), (6, .arr [.int .i64, .bool, .int .i64, .int .i64] .grow (.recs (fcs n (shs n) k)))]) (fun k => shs n - k) ⟨0, by omega⟩ ?_
  intro _
  refine ⟨⟨th [(6, none)] 7, rfl, rfl, rfl, rfl, rfl, rfl, ?_, ?_⟩, ?_⟩
  · (repeat' first | exact trivial | exact rfl | refine And.intro ?_ ?_)
  · (repeat' first | exact trivial | exact rfl | refine And.intro ?_ ?_)
    exact eS2.symm
  intro ⟨k, hk⟩
  intro _; refine ⟨fun g => ?_, fun g => ?_⟩
  · have g := of_decide_eq_true (show decide ((k : Int) + 1 ≤ (shs n : Int)) = true from g)
    have w4 : IntKind.i64.wrap (4 * (shs n : Int)) = 4 * (shs n : Int) := wrapS _ ⟨by omega, by omega⟩
    have w2 : IntKind.i64.wrap (2 * ((k : Int) + 1)) = 2 * ((k : Int) + 1) := wrapS _ ⟨by omega, by omega⟩
    have ec : ((k + 1 : Nat) : Int) = (k : Int) + 1 := rfl
    have eP1 : 4 * (shs n : Int) + 2 - 2 * ((k + 1 : Nat) : Int) = IntKind.i64.wrap (IntKind.i64.wrap (IntKind.i64.wrap (4 * (shs n : Int)) + 2) - IntKind.i64.wrap (2 * ((k : Int) + 1))) := by
      rw [w4, w2, wrapS (4 * (shs n : Int) + 2) ⟨by omega, by omega⟩, wrapS _ ⟨by omega, by omega⟩, ec]
    have eP2 : 2 * ((k + 1 : Nat) : Int) - 1 = IntKind.i64.wrap (IntKind.i64.wrap (2 * ((k : Int) + 1)) - 1) := by
      rw [w2, wrapS _ ⟨by omega, by omega⟩, ec]
    have eP3 : 2 * ((k + 1 : Nat) : Int) = IntKind.i64.wrap (2 * ((k : Int) + 1)) := by rw [w2, ec]
    have eP4 : 4 * (shs n : Int) + 1 - 2 * ((k + 1 : Nat) : Int) = IntKind.i64.wrap (IntKind.i64.wrap (IntKind.i64.wrap (4 * (shs n : Int)) + 1) - IntKind.i64.wrap (2 * ((k : Int) + 1))) := by
      rw [w4, w2, wrapS (4 * (shs n : Int) + 1) ⟨by omega, by omega⟩, wrapS _ ⟨by omega, by omega⟩, ec]
    intro _
    refine Or.inl ?_
    intro _
    refine call_pure [(0, some 1)] (page_ok n (4 * (shs n : Int) + 2 - 2 * ((k + 1 : Nat) : Int))) rfl rfl rfl ?_ ?_ ?_
    · (repeat' first | exact trivial | exact rfl | refine And.intro ?_ ?_)
    · (repeat' first | exact trivial | exact rfl | refine And.intro ?_ ?_)
      exact eP1
    intro v hv _
    subst hv
    intro _
    refine Or.inl ?_
    intro _
    refine call_pure [(0, some 1)] (page_ok n (2 * ((k + 1 : Nat) : Int) - 1)) rfl rfl rfl ?_ ?_ ?_
    · (repeat' first | exact trivial | exact rfl | refine And.intro ?_ ?_)
    · (repeat' first | exact trivial | exact rfl | refine And.intro ?_ ?_)
      exact eP2
    intro v hv _
    subst hv
    intro _
    refine ⟨by kernel_rfl, ?_⟩
    intro _
    refine Or.inl ?_
    intro _
    refine call_pure [(0, some 1)] (page_ok n (2 * ((k + 1 : Nat) : Int))) rfl rfl rfl ?_ ?_ ?_
    · (repeat' first | exact trivial | exact rfl | refine And.intro ?_ ?_)
    · (repeat' first | exact trivial | exact rfl | refine And.intro ?_ ?_)
      exact eP3
    intro v hv _
    subst hv
    intro _
    refine Or.inl ?_
    intro _
    refine call_pure [(0, some 1)] (page_ok n (4 * (shs n : Int) + 1 - 2 * ((k + 1 : Nat) : Int))) rfl rfl rfl ?_ ?_ ?_
    · (repeat' first | exact trivial | exact rfl | refine And.intro ?_ ?_)
    · (repeat' first | exact trivial | exact rfl | refine And.intro ?_ ?_)
      exact eP4
    intro v hv _
    subst hv
    intro _
    refine ⟨by kernel_rfl, ?_⟩
    intro _
    refine yield_ok tt_ok ?_
    intro _; refine ⟨rfl, ?_⟩
    intro _; refine ⟨fun g3 => by simp at g3, fun _ => ?_⟩
    refine ⟨⟨(fcs_len n (shs n) k).symm, by omega, by omega⟩, ?_⟩
    intro _
    intro _
    refine yield_ok tt_ok ?_
    intro _; refine ⟨rfl, ?_⟩
    intro _; refine ⟨fun g3 => by simp at g3, fun _ => ?_⟩
    refine ⟨⟨show 2 * k + 1 = List.length (fcs n (shs n) k ++ [_]) by rw [List.length_append, fcs_len]; rfl, by omega, by omega⟩, ?_⟩
    intro _
    refine ⟨⟨k + 1, by omega⟩, by simp; omega, th [(6, some 14)] 7, rfl, rfl, rfl, rfl, rfl, rfl, ?_, ?_⟩
    · (repeat' first | exact trivial | exact rfl | refine And.intro ?_ ?_)
      show ((k + 1 : Nat) : Int) + 1 = IntKind.i64.wrap ((k : Int) + 1 + 1)
      rw [wrapS _ ⟨by omega, by omega⟩, ec]
    · (repeat' first | exact trivial | exact rfl | refine And.intro ?_ ?_)
  · have g := of_decide_eq_false (show decide ((k : Int) + 1 ≤ (shs n : Int)) = false from g)
    have hkl : k = shs n := by omega
    subst hkl
    intro _
    intro _
    refine ⟨[(0, some 6)], .tup [.grw 0 (fr n).1.length, .int .i64 (fr n).2], ⟨1, 0, [(0, .arr [.int .i64, .bool, .int .i64, .int .i64] .grow (.recs (fr n).1))]⟩, rfl, rfl, rfl, rfl, ?_, ?_, ⟨rfl, rfl⟩⟩
    · rw [e]
      (repeat' first | exact trivial | exact rfl | refine And.intro ?_ ?_)
      exact fcs_len n _ _
    · rw [e]
      (repeat' first | exact trivial | exact rfl | refine And.intro ?_ ?_)
theorem shs_bd {n : Int} (hn : Cn n) : shs n ≤ 125 ∧ n ≤ 4 * shs n ∧ 4 * (shs n : Int) ≤ n + 3 := by
  obtain ⟨N, hN⟩ : ∃ N : Nat, n = N := ⟨n.toNat, by have := hn.1; omega⟩
  have hN5 : N ≤ 500 := by have := hn.2; omega
  have eS0 : (n + 3).tdiv 4 = ((N + 3) / 4 : Nat) := by
    subst hN
    exact_mod_cast Int.ofNat_tdiv (N + 3) 4
  have eS : shs n = (N + 3) / 4 := by unfold shs; rw [eS0]; omega
  omega
def VF (n : Int) : V := .tup [.grw 0 (fr n).1.length, .test (decide (Cn n)), .test true]
def LFQ (n : Int) : V → H → Prop := fun v h' => v = VF n ∧ h' = ⟨1, 0, [(0, .arr [.int .i64, .bool, .int .i64, .int .i64] .grow (.recs (fr n).1))]⟩
theorem lfaces_all (n : Int) : SemF Try.prog 32 [.int .i64 n] ⟨0, 0, []⟩ (LFQ n) := by
  refine SemF.ret ?_
  refine enter tt_ok Try.func32 (nt := 30) (cd := body Try.f32) rfl rfl rfl rfl ?_
  have fin : ¬ Cn n → Ret 0 (LFQ n) (.tup [.nils, .bool false, .bool true]) ⟨0, 0, []⟩ := fun h => by
    have e : fr n = ([], 1) := by unfold fr; rw [if_neg h]
    refine ⟨[(0, none)], .tup [.grw 0 0, .test false, .test true], ⟨1, 0, [(0, .arr [.int .i64, .bool, .int .i64, .int .i64] .grow (.recs []))]⟩, rfl, rfl, rfl, rfl, ?_, ?_, ?_, ?_⟩
    · (repeat' first | exact trivial | exact rfl | refine And.intro ?_ ?_)
    · (repeat' first | exact trivial | exact rfl | refine And.intro ?_ ?_)
    · unfold VF; rw [e, decide_eq_false h]; rfl
    · rw [e]
  intro _; refine ⟨fun g => ?_, fun g => ?_⟩
  · have g := of_decide_eq_true (show decide (n < 0) = true from g)
    intro _
    exact fin (fun h => by have := h.1; omega)
  have g1 := of_decide_eq_false (show decide (n < 0) = false from g)
  intro _; refine ⟨fun g => ?_, fun g => ?_⟩
  · have g := of_decide_eq_true (show decide (n > 500) = true from g)
    intro _
    exact fin (fun h => by have := h.2; omega)
  have g2 := of_decide_eq_false (show decide (n > 500) = false from g)
  have hn : Cn n := ⟨by omega, by omega⟩
  have e : fr n = (fcs n (shs n) (shs n), 0) := by unfold fr; rw [if_pos hn]
  obtain ⟨b1, b2, b3⟩ := shs_bd hn
  intro _
  refine call_new [] (faces_all n) rfl rfl rfl rfl ?_ ?_ ?_
  · (repeat' first | exact trivial | exact rfl | refine And.intro ?_ ?_)
  · (repeat' first | exact trivial | exact rfl | refine And.intro ?_ ?_)
  intro v h' hv
  obtain ⟨rfl, rfl⟩ := hv
  refine ⟨[(0, some 0)], 1, [(0, .arr [.int .i64, .bool, .int .i64, .int .i64] .grow (.recs (fr n).1))], .tup [.grw 0 (fr n).1.length, .int .i64 (fr n).2], rfl, rfl, rfl, rfl, rfl, ?_, ?_, ?_⟩
  · (repeat' first | exact trivial | exact rfl | refine And.intro ?_ ?_)
  · (repeat' first | exact trivial | exact rfl | refine And.intro ?_ ?_)
  intro _; refine ⟨fun g => ?_, fun g => ?_⟩
  · intro _; refine ⟨by omega, ?_⟩
    intro _
    have eW : IntKind.i64.wrap (IntKind.i64.wrap ((IntKind.i64.wrap (n + 3)).tdiv 4) * 2) = ((2 * shs n : Nat) : Int) := by
      have h1 : (n + 3).tdiv 4 = (shs n : Int) := by
        have : 0 ≤ (n + 3).tdiv 4 := Int.tdiv_nonneg (by omega) (by omega)
        unfold shs; omega
      rw [wrapS (n + 3) ⟨by omega, by omega⟩, h1, wrapS (shs n : Int) ⟨by omega, by omega⟩, wrapS _ ⟨by omega, by omega⟩]
      omega
    refine ⟨[(0, some 0)], VF n, ⟨1, 0, [(0, .arr [.int .i64, .bool, .int .i64, .int .i64] .grow (.recs (fr n).1))]⟩, rfl, rfl, rfl, rfl, ?_, ?_, ⟨rfl, rfl⟩⟩
    · (repeat' first | exact trivial | exact rfl | refine And.intro ?_ ?_)
      · exact decide_eq_true hn
      · show true = (((fr n).1.length : Int) == IntKind.i64.wrap (IntKind.i64.wrap ((IntKind.i64.wrap (n + 3)).tdiv 4) * 2))
        rw [eW, e]
        show true = ((List.length (fcs n (shs n) (shs n)) : Int) == ((2 * shs n : Nat) : Int))
        rw [fcs_len]
        simp
    · (repeat' first | exact trivial | exact rfl | refine And.intro ?_ ?_)
  · exfalso
    have g : ((fr n).2 == 0) = false := g
    rw [e] at g
    simp at g
theorem fcs_get (n : Int) (S : Nat) : ∀ k i, i < 2 * k → (fcs n S k).getD i [] = if i % 2 = 0 then frn n S (i / 2 + 1) else bck n S (i / 2 + 1)
  | 0, i, h => by omega
  | k + 1, i, h => by
    rw [List.getD_eq_getElem?_getD]
    simp only [fcs]
    have l1 := fcs_len n S k
    rcases Nat.lt_or_ge i (2 * k) with e | e
    · rw [List.getElem?_append_left (by rw [List.length_append, l1]; omega), List.getElem?_append_left (by omega), ← List.getD_eq_getElem?_getD, fcs_get n S k i e]
    · by_cases e2 : i = 2 * k
      · rw [List.getElem?_append_left (by rw [List.length_append, l1]; simp; omega), List.getElem?_append_right (by omega), e2, l1, if_pos (by omega)]
        have : 2 * k / 2 = k := by omega
        rw [this]; simp
      · have e3 : i = 2 * k + 1 := by omega
        rw [List.getElem?_append_right (by rw [List.length_append, l1]; simp; omega), e3, List.length_append, l1, if_neg (by omega)]
        have : (2 * k + 1) / 2 = k := by omega
        rw [this]; simp
def lfI (n : Int) (S i : Nat) : Int := if i % 2 = 0 then pg n (4 * S + 2 - 2 * ((i / 2 + 1 : Nat) : Int)) else pg n (2 * ((i / 2 + 1 : Nat) : Int))
def rtI (n : Int) (S i : Nat) : Int := if i % 2 = 0 then pg n (2 * ((i / 2 + 1 : Nat) : Int) - 1) else pg n (4 * S + 1 - 2 * ((i / 2 + 1 : Nat) : Int))
section
variable {n : Int} {S i : Nat} (h : i < 2 * S)
include h
theorem g0 : (((fcs n S S).getD i []).getD 0 (D.n 0)).int = ((i / 2 + 1 : Nat) : Int) := by
  rw [fcs_get n S S i h]; split <;> rfl
theorem g1 : (((fcs n S S).getD i []).getD 1 (D.n 0)).bool = decide (i % 2 = 1) := by
  rw [fcs_get n S S i h]
  split
  · rw [decide_eq_false (by omega)]; rfl
  · rw [decide_eq_true (by omega)]; rfl
theorem g2 : (((fcs n S S).getD i []).getD 2 (D.n 0)).int = lfI n S i := by
  rw [fcs_get n S S i h]; unfold lfI; split <;> rfl
theorem g3 : (((fcs n S S).getD i []).getD 3 (D.n 0)).int = rtI n S i := by
  rw [fcs_get n S S i h]; unfold rtI; split <;> rfl
end
theorem pg_cn {n p : Int} (hn : Cn n) (hp : 0 ≤ p) : Cn (pg n p) := by
  unfold pg
  have := hn.2
  split
  · exact ⟨by omega, by omega⟩
  · exact ⟨hp, by omega⟩
theorem lf_cn {n : Int} {S i : Nat} (hn : Cn n) (h : i < 2 * S) : Cn (lfI n S i) := by
  unfold lfI; split <;> exact pg_cn hn (by omega)
theorem rt_cn {n : Int} {S i : Nat} (hn : Cn n) (h : i < 2 * S) : Cn (rtI n S i) := by
  unfold rtI; split <;> exact pg_cn hn (by omega)
/-- the pages in their order -/
def ol (n : Int) (k : Nat) : List Int := (List.range k).map fun (i : Nat) => pg n ((i : Int) + 1)
theorem ol_len (n : Int) (k : Nat) : (ol n k).length = k := by simp [ol]
theorem ol_succ (n : Int) (k : Nat) : ol n (k + 2) = ol n k ++ [pg n ((k : Int) + 1), pg n ((k : Int) + 2)] := by
  have e : (k : Int) + 1 + 1 = (k : Int) + 2 := by omega
  simp [ol, List.range_succ, e]
def OQ (n : Int) (S : Nat) : V → H → Prop := fun v h' => v = .tup [.grw 1 (4 * S), .int .i64 0] ∧ h' = ⟨2, 1, [(1, .arr [.int .i64] .grow (.ints (ol n (4 * S))))]⟩
theorem order_all (n : Int) (hn : Cn n) (S : Nat) (hS : S ≤ 125) : SemF Try.prog 29 [.slc 0 4 0 (2 * S)] ⟨1, 1, [(0, .arr [.int .i64, .bool, .int .i64, .int .i64] .rd (.recs (fcs n S S)))]⟩ (OQ n S) := by
  refine SemF.ret ?_
  refine enter tt_ok Try.func29 (nt := 95) (cd := body Try.f29) rfl rfl rfl rfl ?_
  have hl := fcs_len n S S
  intro _; refine ⟨by omega, ?_⟩
  intro _; refine ⟨fun g => ?_, fun _ => ?_⟩
  · exfalso
    have g : (((2 * S : Nat) : Int).tmod 2 != 0) = true := g
    have e : ((2 * S : Nat) : Int).tmod 2 = 0 := by rw [Int.tmod_eq_emod_of_nonneg (by omega)]; omega
    rw [e] at g; simp at g
  intro _; refine ⟨fun g => ?_, fun _ => ?_⟩
  · exfalso
    have g := of_decide_eq_true (show decide (((2 * S : Nat) : Int) > 250) = true from g)
    omega
  intro _
  refine loop2 tt_ok [21] [] 1 (fun k : Fin (2 * S + 1) => [(21, .int .i64 (k : Nat))]) (fun _ => []) (fun k => 2 * S - k) ⟨0, by omega⟩ ?_
  intro _
  refine ⟨⟨th [] 1, rfl, rfl, rfl, rfl, rfl, rfl, ?_, ?_⟩, ?_⟩
  · (repeat' first | exact trivial | exact rfl | refine And.intro ?_ ?_)
  · (repeat' first | exact trivial | exact rfl | refine And.intro ?_ ?_)
  intro ⟨k, hk⟩
  intro _; refine ⟨fun g => ?_, fun g => ?_⟩
  · have g := of_decide_eq_true (show decide ((k : Int) < ((2 * S : Nat) : Int)) = true from g)
    have hk2 : k < 2 * S := by omega
    have e0 : 0 + ((k : Int)).toNat = k := by omega
    intro _; refine ⟨show 0 ≤ (k : Int) ∧ (k : Int) < ((2 * S : Nat) : Int) by omega, ?_⟩
    intro _; refine ⟨show 0 + (k : Int).toNat < List.length (fcs n S S) by omega, ?_⟩
    intro _; refine ⟨by omega, ?_⟩
    intro _; refine ⟨by omega, ?_⟩
    intro _; refine ⟨fun g => ?_, fun _ => ?_⟩
    · exfalso
      have g : (!((((fcs n S S).getD (0 + (k : Int).toNat) []).getD 0 (D.n 0)).int == IntKind.i64.wrap (IntKind.i64.wrap ((k : Int).tdiv 2) + 1) && ((((fcs n S S).getD (0 + (k : Int).toNat) []).getD 1 (D.n 0)).bool == ((k : Int).tmod 2 == 1) && ((((fcs n S S).getD (0 + (k : Int).toNat) []).getD 2 (D.n 0)).int == (((fcs n S S).getD (0 + (k : Int).toNat) []).getD 2 (D.n 0)).int && (((fcs n S S).getD (0 + (k : Int).toNat) []).getD 3 (D.n 0)).int == (((fcs n S S).getD (0 + (k : Int).toNat) []).getD 3 (D.n 0)).int)))) = true := g
      have e1 : (k : Int).tdiv 2 = ((k / 2 : Nat) : Int) := by exact_mod_cast Int.ofNat_tdiv k 2
      have e2 : (k : Int).tmod 2 = ((k % 2 : Nat) : Int) := by rw [Int.tmod_eq_emod_of_nonneg (by omega)]; omega
      have e3 : (((k % 2 : Nat) : Int) == 1) = decide (k % 2 = 1) := by
        by_cases q : k % 2 = 1
        · rw [q, decide_eq_true rfl]; rfl
        · have : k % 2 = 0 := by omega
          rw [this]; rfl
      rw [e0, g0 hk2, g1 hk2, e1, e2, e3, wrapS ((k / 2 : Nat) : Int) ⟨by omega, by omega⟩, wrapS _ ⟨by omega, by omega⟩] at g
      simp at g
    · intro _
      refine count_test _ _ _ ?_
      intro _; refine ⟨fun g => ?_, fun _ => ?_⟩
      · exfalso
        have g : (!decide (Cn (((fcs n S S).getD (0 + (k : Int).toNat) []).getD 2 (D.n 0)).int)) = true := g
        rw [Bool.not_eq_true', e0, g2 hk2] at g
        exact of_decide_eq_false g (lf_cn hn hk2)
      intro _
      refine count_test _ _ _ ?_
      intro _; refine ⟨fun g => ?_, fun _ => ?_⟩
      · exfalso
        have g : (!decide (Cn (((fcs n S S).getD (0 + (k : Int).toNat) []).getD 3 (D.n 0)).int)) = true := g
        rw [Bool.not_eq_true', e0, g3 hk2] at g
        exact of_decide_eq_false g (rt_cn hn hk2)
      refine ⟨⟨k + 1, by omega⟩, by simp; omega, th [] 1, rfl, rfl, rfl, rfl, rfl, rfl, ?_, ?_⟩
      · (repeat' first | exact trivial | exact rfl | refine And.intro ?_ ?_)
        exact (wrap_nat k (by omega)).symm
      · (repeat' first | exact trivial | exact rfl | refine And.intro ?_ ?_)
  · have g := of_decide_eq_false (show decide ((k : Int) < ((2 * S : Nat) : Int)) = false from g)
    intro _
    refine loop2 tt_ok [7, 8] [1] 2 (fun j : Fin (S + 1) => [(7, .grw 1 (2 * j)), (8, .int .i64 (2 * (j : Nat)))]) (fun j => [(1, .arr [.int .i64] .grow (.ints (ol n (2 * j))))]) (fun j => S - j) ⟨0, by omega⟩ ?_
    intro _
    refine ⟨⟨th [(1, none)] 2, rfl, rfl, rfl, rfl, rfl, rfl, ?_, ?_⟩, ?_⟩
    · (repeat' first | exact trivial | exact rfl | refine And.intro ?_ ?_)
    · (repeat' first | exact trivial | exact rfl | refine And.intro ?_ ?_)
    intro ⟨j, hj⟩
    intro _; refine ⟨fun g => ?_, fun g => ?_⟩
    · have g := of_decide_eq_true (show decide (2 * (j : Int) < ((2 * S : Nat) : Int)) = true from g)
      have hj2 : j < S := by omega
      have w1 : IntKind.i64.wrap (2 * (j : Int) + 1) = 2 * (j : Int) + 1 := wrapS _ ⟨by omega, by omega⟩
      intro _; refine ⟨show 0 ≤ 2 * (j : Int) ∧ 2 * (j : Int) < ((2 * S : Nat) : Int) by omega, ?_⟩
      intro _; refine ⟨show 0 + (2 * (j : Int)).toNat < List.length (fcs n S S) by omega, ?_⟩
      intro _; refine ⟨show 0 ≤ IntKind.i64.wrap (2 * (j : Int) + 1) ∧ IntKind.i64.wrap (2 * (j : Int) + 1) < ((2 * S : Nat) : Int) by rw [w1]; omega, ?_⟩
      intro _; refine ⟨show 0 + (IntKind.i64.wrap (2 * (j : Int) + 1)).toNat < List.length (fcs n S S) by rw [w1]; omega, ?_⟩
      intro _
      refine Or.inr ?_
      intro _; refine ⟨rfl, ?_⟩
      intro _; refine ⟨fun g3 => by simp at g3, fun _ => ?_⟩
      refine ⟨⟨(ol_len n (2 * j)).symm, by omega, by omega⟩, ?_⟩
      intro _
      refine ⟨by kernel_rfl, ?_⟩
      refine ⟨⟨j + 1, by omega⟩, by simp; omega, th [(1, some 3)] 2, rfl, rfl, rfl, rfl, rfl, rfl, ?_, ?_⟩
      · (repeat' first | exact trivial | exact rfl | refine And.intro ?_ ?_)
        show 2 * ((j + 1 : Nat) : Int) = IntKind.i64.wrap (2 * (j : Int) + 2)
        rw [wrapS _ ⟨by omega, by omega⟩]; omega
      · (repeat' first | exact trivial | exact rfl | refine And.intro ?_ ?_)
        show ol n (2 * (j + 1)) = ol n (2 * j) ++ [(((fcs n S S).getD (0 + (2 * (j : Int)).toNat) []).getD 3 (D.n 0)).int, (((fcs n S S).getD (0 + (IntKind.i64.wrap (2 * (j : Int) + 1)).toNat) []).getD 2 (D.n 0)).int]
        have e1 : 0 + (2 * (j : Int)).toNat = 2 * j := by omega
        have e2 : 0 + (2 * (j : Int) + 1).toNat = 2 * j + 1 := by omega
        rw [w1, e1, e2, g3 (by omega), g2 (by omega)]
        have e3 : 2 * (j + 1) = 2 * j + 2 := by omega
        rw [e3, ol_succ]
        unfold rtI lfI
        rw [if_pos (by omega), if_neg (by omega)]
        have e4 : 2 * j / 2 = j := by omega
        have e5 : (2 * j + 1) / 2 = j := by omega
        rw [e4, e5]
        have e6 : 2 * ((j + 1 : Nat) : Int) - 1 = ((2 * j : Nat) : Int) + 1 := by omega
        have e7 : 2 * ((j + 1 : Nat) : Int) = ((2 * j : Nat) : Int) + 2 := by omega
        rw [e6, e7]
    · have g := of_decide_eq_false (show decide (2 * (j : Int) < ((2 * S : Nat) : Int)) = false from g)
      have hjS : j = S := by omega
      subst hjS
      intro _
      refine loop2 tt_ok [7, 9] [1] 2 (fun m : Fin (j + 1) => [(7, .grw 1 (2 * j + 2 * m)), (9, .int .i64 (2 * (j : Int) - 2 - 2 * (m : Nat)))]) (fun m => [(1, .arr [.int .i64] .grow (.ints (ol n (2 * j + 2 * m))))]) (fun m => j - m) ⟨0, by omega⟩ ?_
      intro _
      refine ⟨⟨th [] 2, rfl, rfl, rfl, rfl, rfl, rfl, ?_, ?_⟩, ?_⟩
      · (repeat' first | exact trivial | exact rfl | refine And.intro ?_ ?_)
        show 2 * (j : Int) - 2 - 2 * ((0 : Nat) : Int) = IntKind.i64.wrap (((2 * j : Nat) : Int) - 2)
        rw [wrapS _ ⟨by omega, by omega⟩]; omega
      · (repeat' first | exact trivial | exact rfl | refine And.intro ?_ ?_)
      intro ⟨m, hm⟩
      intro _; refine ⟨fun g => ?_, fun g => ?_⟩
      · have g := of_decide_eq_true (show decide (2 * (j : Int) - 2 - 2 * (m : Int) ≥ 0) = true from g)
        have w1 : IntKind.i64.wrap (2 * (j : Int) - 2 - 2 * (m : Int) + 1) = 2 * (j : Int) - 2 - 2 * (m : Int) + 1 := wrapS _ ⟨by omega, by omega⟩
        intro _; refine ⟨show 0 ≤ IntKind.i64.wrap (2 * (j : Int) - 2 - 2 * (m : Int) + 1) ∧ IntKind.i64.wrap (2 * (j : Int) - 2 - 2 * (m : Int) + 1) < ((2 * j : Nat) : Int) by rw [w1]; omega, ?_⟩
        intro _; refine ⟨show 0 + (IntKind.i64.wrap (2 * (j : Int) - 2 - 2 * (m : Int) + 1)).toNat < List.length (fcs n j j) by rw [w1]; omega, ?_⟩
        intro _; refine ⟨show 0 ≤ 2 * (j : Int) - 2 - 2 * (m : Int) ∧ 2 * (j : Int) - 2 - 2 * (m : Int) < ((2 * j : Nat) : Int) by omega, ?_⟩
        intro _; refine ⟨show 0 + (2 * (j : Int) - 2 - 2 * (m : Int)).toNat < List.length (fcs n j j) by omega, ?_⟩
        intro _
        refine Or.inr ?_
        intro _; refine ⟨rfl, ?_⟩
        intro _; refine ⟨fun g3 => by simp at g3, fun _ => ?_⟩
        refine ⟨⟨(ol_len n (2 * j + 2 * m)).symm, by omega, by omega⟩, ?_⟩
        intro _
        refine ⟨by kernel_rfl, ?_⟩
        refine ⟨⟨m + 1, by omega⟩, by simp; omega, th [(1, some 3)] 2, rfl, rfl, rfl, rfl, rfl, rfl, ?_, ?_⟩
        · (repeat' first | exact trivial | exact rfl | refine And.intro ?_ ?_)
          show 2 * (j : Int) - 2 - 2 * ((m + 1 : Nat) : Int) = IntKind.i64.wrap (2 * (j : Int) - 2 - 2 * (m : Int) - 2)
          rw [wrapS _ ⟨by omega, by omega⟩]; omega
        · (repeat' first | exact trivial | exact rfl | refine And.intro ?_ ?_)
          show ol n (2 * j + 2 * (m + 1)) = ol n (2 * j + 2 * m) ++ [(((fcs n j j).getD (0 + (IntKind.i64.wrap (2 * (j : Int) - 2 - 2 * (m : Int) + 1)).toNat) []).getD 3 (D.n 0)).int, (((fcs n j j).getD (0 + (2 * (j : Int) - 2 - 2 * (m : Int)).toNat) []).getD 2 (D.n 0)).int]
          have e1 : 0 + (2 * (j : Int) - 2 - 2 * (m : Int) + 1).toNat = 2 * (j - 1 - m) + 1 := by omega
          have e2 : 0 + (2 * (j : Int) - 2 - 2 * (m : Int)).toNat = 2 * (j - 1 - m) := by omega
          rw [w1, e1, e2, g3 (by omega), g2 (by omega)]
          have e3 : 2 * j + 2 * (m + 1) = 2 * j + 2 * m + 2 := by omega
          rw [e3, ol_succ]
          unfold rtI lfI
          rw [if_neg (by omega), if_pos (by omega)]
          have e4 : 2 * (j - 1 - m) / 2 = j - 1 - m := by omega
          have e5 : (2 * (j - 1 - m) + 1) / 2 = j - 1 - m := by omega
          rw [e4, e5]
          have e6 : 4 * (j : Int) + 1 - 2 * ((j - 1 - m + 1 : Nat) : Int) = ((2 * j + 2 * m : Nat) : Int) + 1 := by omega
          have e7 : 4 * (j : Int) + 2 - 2 * ((j - 1 - m + 1 : Nat) : Int) = ((2 * j + 2 * m : Nat) : Int) + 2 := by omega
          rw [e6, e7]
      · have g := of_decide_eq_false (show decide (2 * (j : Int) - 2 - 2 * (m : Int) ≥ 0) = false from g)
        have hmj : m = j := by omega
        subst hmj
        intro _
        have e8 : 4 * m = 2 * m + 2 * m := by omega
        refine ⟨[(1, some 1)], .tup [.grw 1 (4 * m), .int .i64 0], ⟨2, 1, [(1, .arr [.int .i64] .grow (.ints (ol n (4 * m))))]⟩, rfl, rfl, rfl, rfl, ?_, ?_, ⟨rfl, rfl⟩⟩
        · (repeat' first | exact trivial | exact rfl | refine And.intro ?_ ?_)
          exact e8
        · rw [e8]
          (repeat' first | exact trivial | exact rfl | refine And.intro ?_ ?_)
theorem mfind_mput (a q : Int) (d : List D) : ∀ l : List (Int × List D), mfind (mput l a d) q = if a = q then some d else mfind l q
  | [] => by simp [mput, mfind]
  | e :: l => by
    simp only [mput]
    by_cases h : e.1 = a
    · rw [if_pos h]
      simp only [mfind]
      by_cases g : a = q
      · simp [g]
      · rw [if_neg g, if_neg g, if_neg (by rw [h]; exact g)]
    · rw [if_neg h]
      simp only [mfind, mfind_mput a q d l]
      by_cases g : e.1 = q
      · rw [if_pos g, if_pos g]
        rw [if_neg (fun k => h (by rw [g, k]))]
      · rw [if_neg g, if_neg g]
abbrev Mp := List (Int × List D)
def two (l : Mp) (r : List D) (a b : Int) : Mp := mput (mput l a (r ++ [.b false])) b (r ++ [.b true])
def wm (n : Int) (S : Nat) : Nat → Mp
  | 0 => []
  | k + 1 => two (two (wm n S k) (frn n S (k + 1)) (pg n (4 * S + 2 - 2 * ((k + 1 : Nat) : Int))) (pg n (2 * ((k + 1 : Nat) : Int) - 1))) (bck n S (k + 1)) (pg n (2 * ((k + 1 : Nat) : Int))) (pg n (4 * S + 1 - 2 * ((k + 1 : Nat) : Int)))
def WR (n : Int) (S : Nat) (p : Int) : List D :=
  if p ≤ 2 * S then (if p % 2 = 1 then frn n S ((p + 1) / 2).toNat ++ [.b true] else bck n S (p / 2).toNat ++ [.b false])
  else (if p % 2 = 0 then frn n S ((4 * S + 2 - p) / 2).toNat ++ [.b false] else bck n S ((4 * S + 1 - p) / 2).toNat ++ [.b true])
theorem find_two (l : Mp) (r : List D) (a b q : Int) : mfind (two l r a b) q = if b = q then some (r ++ [.b true]) else if a = q then some (r ++ [.b false]) else mfind l q := by
  unfold two; rw [mfind_mput, mfind_mput]
theorem pg_eq {n x p : Int} (hp : 1 ≤ p ∧ p ≤ n) : pg n x = p ↔ x = p := by
  unfold pg; split <;> omega
theorem wm_in {n p : Int} {S : Nat} (hp : 1 ≤ p ∧ p ≤ n) (hS : n ≤ 4 * S) : ∀ k, k ≤ S → mfind (wm n S k) p = if p ≤ 2 * k ∨ p > 4 * S - 2 * k then some (WR n S p) else none
  | 0, hk => by rw [if_neg (by omega)]; rfl
  | k + 1, hk => by
    simp only [wm]
    rw [find_two, find_two, wm_in hp hS k (by omega)]
    simp only [pg_eq hp]
    by_cases h1 : 4 * (S : Int) + 1 - 2 * ((k + 1 : Nat) : Int) = p
    · rw [if_pos h1, if_pos (by omega)]
      unfold WR
      rw [if_neg (by omega), if_neg (by omega)]
      have : ((4 * (S : Int) + 1 - p) / 2).toNat = k + 1 := by omega
      rw [this]
    rw [if_neg h1]
    by_cases h2 : 2 * ((k + 1 : Nat) : Int) = p
    · rw [if_pos h2, if_pos (by omega)]
      unfold WR
      rw [if_pos (by omega), if_neg (by omega)]
      have : (p / 2).toNat = k + 1 := by omega
      rw [this]
    rw [if_neg h2]
    by_cases h3 : 2 * ((k + 1 : Nat) : Int) - 1 = p
    · rw [if_pos h3, if_pos (by omega)]
      unfold WR
      rw [if_pos (by omega), if_pos (by omega)]
      have : ((p + 1) / 2).toNat = k + 1 := by omega
      rw [this]
    rw [if_neg h3]
    by_cases h4 : 4 * (S : Int) + 2 - 2 * ((k + 1 : Nat) : Int) = p
    · rw [if_pos h4, if_pos (by omega)]
      unfold WR
      rw [if_neg (by omega), if_pos (by omega)]
      have : ((4 * (S : Int) + 2 - p) / 2).toNat = k + 1 := by omega
      rw [this]
    rw [if_neg h4]
    by_cases h5 : p ≤ 2 * (k : Int) ∨ p > 4 * (S : Int) - 2 * (k : Int)
    · rw [if_pos h5, if_pos (by omega)]
    · rw [if_neg h5, if_neg (by omega)]
theorem pg_no {n x p : Int} (hx : 0 ≤ x) (hn : 0 ≤ n) (hp : p < 0 ∨ p > n) : ¬ pg n x = p := by
  unfold pg; split <;> omega
theorem wm_out {n p : Int} {S : Nat} (hn : 0 ≤ n) (hp : p < 0 ∨ p > n) : ∀ k, k ≤ S → mfind (wm n S k) p = none
  | 0, _ => rfl
  | k + 1, hk => by
    simp only [wm]
    rw [find_two, find_two, wm_out hn hp k (by omega), if_neg (pg_no (by omega) hn hp), if_neg (pg_no (by omega) hn hp), if_neg (pg_no (by omega) hn hp), if_neg (pg_no (by omega) hn hp)]
def FV (d : List D) : V := .agg [.int .i64 (d.getD 0 (.n 0)).int, .test (d.getD 1 (.n 0)).bool, .int .i64 (d.getD 2 (.n 0)).int, .int .i64 (d.getD 3 (.n 0)).int]
def NV : V := .agg [.int .i64 0, .bool false, .int .i64 0, .int .i64 0]
def WV (n p : Int) : V := if Cn n then (if 1 ≤ p ∧ p ≤ n then .tup [FV (WR n (shs n) p), .test ((WR n (shs n) p).getD 4 (.n 0)).bool, .int .i64 0] else .tup [NV, .bool false, .int .i64 4]) else .tup [NV, .bool false, .int .i64 1]
theorem where_ok (n p : Int) : SemF Try.prog 27 [.int .i64 n, .int .i64 p] ⟨0, 0, []⟩ (fun v _ => v = WV n p ∧ nameless v = true) := by
  refine enter tt_ok Try.func27 (nt := 46) (cd := body Try.f27) rfl rfl rfl rfl ?_
  intro _
  refine count_test _ _ _ ?_
  intro _; refine ⟨fun g => ?_, fun g => ?_⟩
  · have g : (!decide (Cn n)) = true := g
    rw [Bool.not_eq_true'] at g
    have g := of_decide_eq_false g
    intro _
    refine ⟨?_, rfl⟩
    unfold WV; rw [if_neg g]; rfl
  have g : (!decide (Cn n)) = false := g
  rw [Bool.not_eq_false'] at g
  have hn := of_decide_eq_true g
  obtain ⟨N, hN⟩ : ∃ N : Nat, n = N := ⟨n.toNat, by have := hn.1; omega⟩
  have hN5 : N ≤ 500 := by have := hn.2; omega
  have eS0 : (n + 3).tdiv 4 = ((N + 3) / 4 : Nat) := by
    subst hN
    exact_mod_cast Int.ofNat_tdiv (N + 3) 4
  have eS : shs n = (N + 3) / 4 := by unfold shs; rw [eS0]; omega
  intro _
  refine enter tt_ok Try.func39 (nt := 10) (cd := body Try.f39) rfl rfl rfl rfl ?_
  intro _; refine ⟨by omega, ?_⟩
  intro _
  intro _
  refine range_ok ?_
  intro _
  refine enter tt_ok Try.func46 (nt := 51) (cd := body Try.f46) rfl rfl rfl rfl ?_
  have eS2 : IntKind.i64.wrap ((IntKind.i64.wrap (n + 3)).tdiv 4) = (shs n : Int) := by
    rw [wrapS (n + 3) ⟨by omega, by omega⟩, eS0, ← eS]
    exact wrapS _ ⟨by omega, by omega⟩
  intro _
  refine loop2 tt_ok [4] [1, 4] 8 (fun k : Fin (shs n + 1) => [(4, .int .i64 ((k : Nat) + 1))]) (fun k => [(1, .map .i64 [.int .i64, .bool, .int .i64, .int .i64, .bool] true (wm n (shs n) k)), (4, .cells [.int .i64 (shs n)])]) (fun k => shs n - k) ⟨0, by omega⟩ ?_
  intro _
  refine ⟨⟨th [] 8, rfl, rfl, rfl, rfl, rfl, rfl, ?_, ?_⟩, ?_⟩
  · (repeat' first | exact trivial | exact rfl | refine And.intro ?_ ?_)
  · (repeat' first | exact trivial | exact rfl | refine And.intro ?_ ?_)
    exact eS2.symm
  intro ⟨k, hk⟩
  intro _; refine ⟨fun g => ?_, fun g => ?_⟩
  · have g := of_decide_eq_true (show decide ((k : Int) + 1 ≤ (shs n : Int)) = true from g)
    have w4 : IntKind.i64.wrap (4 * (shs n : Int)) = 4 * (shs n : Int) := wrapS _ ⟨by omega, by omega⟩
    have w2 : IntKind.i64.wrap (2 * ((k : Int) + 1)) = 2 * ((k : Int) + 1) := wrapS _ ⟨by omega, by omega⟩
    have ec : ((k + 1 : Nat) : Int) = (k : Int) + 1 := rfl
    have eP1 : 4 * (shs n : Int) + 2 - 2 * ((k + 1 : Nat) : Int) = IntKind.i64.wrap (IntKind.i64.wrap (IntKind.i64.wrap (4 * (shs n : Int)) + 2) - IntKind.i64.wrap (2 * ((k : Int) + 1))) := by
      rw [w4, w2, wrapS (4 * (shs n : Int) + 2) ⟨by omega, by omega⟩, wrapS _ ⟨by omega, by omega⟩, ec]
    have eP2 : 2 * ((k + 1 : Nat) : Int) - 1 = IntKind.i64.wrap (IntKind.i64.wrap (2 * ((k : Int) + 1)) - 1) := by
      rw [w2, wrapS _ ⟨by omega, by omega⟩, ec]
    have eP3 : 2 * ((k + 1 : Nat) : Int) = IntKind.i64.wrap (2 * ((k : Int) + 1)) := by rw [w2, ec]
    have eP4 : 4 * (shs n : Int) + 1 - 2 * ((k + 1 : Nat) : Int) = IntKind.i64.wrap (IntKind.i64.wrap (IntKind.i64.wrap (4 * (shs n : Int)) + 1) - IntKind.i64.wrap (2 * ((k : Int) + 1))) := by
      rw [w4, w2, wrapS (4 * (shs n : Int) + 1) ⟨by omega, by omega⟩, wrapS _ ⟨by omega, by omega⟩, ec]
    intro _
    refine Or.inl ?_
    intro _
    refine call_pure [(0, some 3)] (page_ok n (4 * (shs n : Int) + 2 - 2 * ((k + 1 : Nat) : Int))) rfl rfl rfl ?_ ?_ ?_
    · (repeat' first | exact trivial | exact rfl | refine And.intro ?_ ?_)
    · (repeat' first | exact trivial | exact rfl | refine And.intro ?_ ?_)
      exact eP1
    intro v hv _
    subst hv
    intro _
    refine Or.inl ?_
    intro _
    refine call_pure [(0, some 3)] (page_ok n (2 * ((k + 1 : Nat) : Int) - 1)) rfl rfl rfl ?_ ?_ ?_
    · (repeat' first | exact trivial | exact rfl | refine And.intro ?_ ?_)
    · (repeat' first | exact trivial | exact rfl | refine And.intro ?_ ?_)
      exact eP2
    intro v hv _
    subst hv
    intro _
    refine ⟨by kernel_rfl, ?_⟩
    intro _
    refine Or.inl ?_
    intro _
    refine call_pure [(0, some 3)] (page_ok n (2 * ((k + 1 : Nat) : Int))) rfl rfl rfl ?_ ?_ ?_
    · (repeat' first | exact trivial | exact rfl | refine And.intro ?_ ?_)
    · (repeat' first | exact trivial | exact rfl | refine And.intro ?_ ?_)
      exact eP3
    intro v hv _
    subst hv
    intro _
    refine Or.inl ?_
    intro _
    refine call_pure [(0, some 3)] (page_ok n (4 * (shs n : Int) + 1 - 2 * ((k + 1 : Nat) : Int))) rfl rfl rfl ?_ ?_ ?_
    · (repeat' first | exact trivial | exact rfl | refine And.intro ?_ ?_)
    · (repeat' first | exact trivial | exact rfl | refine And.intro ?_ ?_)
      exact eP4
    intro v hv _
    subst hv
    intro _
    refine ⟨by kernel_rfl, ?_⟩
    intro _
    refine yield_ok tt_ok ?_
    intro _
    intro _
    refine yield_ok tt_ok ?_
    intro _
    refine ⟨⟨k + 1, by omega⟩, by simp; omega, th [] 8, rfl, rfl, rfl, rfl, rfl, rfl, ?_, ?_⟩
    · (repeat' first | exact trivial | exact rfl | refine And.intro ?_ ?_)
      show ((k + 1 : Nat) : Int) + 1 = IntKind.i64.wrap ((k : Int) + 1 + 1)
      rw [wrapS _ ⟨by omega, by omega⟩, ec]
    · (repeat' first | exact trivial | exact rfl | refine And.intro ?_ ?_)
  · have g := of_decide_eq_false (show decide ((k : Int) + 1 ≤ (shs n : Int)) = false from g)
    have hkl : k = shs n := by omega
    subst hkl
    intro _
    intro _
    have eN : ¬ (1 ≤ p ∧ p ≤ n) → V.tup [NV, .bool false, .int .i64 4] = WV n p ∧ nameless (V.tup [NV, .bool false, .int .i64 4]) = true := fun h => ⟨by unfold WV; rw [if_pos hn, if_neg h], rfl⟩
    have hS : n ≤ 4 * shs n := by omega
    refine ⟨fun g1 => ?_, fun g1 => ?_⟩
    · have g1 : p = 0 := by simpa using (show (p == 0) = true from g1)
      intro _
      exact eN (by omega)
    have g1 : ¬ p = 0 := by simpa using (show (p == 0) = false from g1)
    intro _
    refine ⟨fun g2 => ?_, fun g2 => ?_⟩
    · have g2 : (!(mfind (wm n (shs n) (shs n)) p).isSome) = true := g2
      intro _
      refine eN (fun h => ?_)
      rw [wm_in h hS (shs n) (Nat.le_refl _), if_pos (by omega)] at g2
      simp at g2
    have g2 : (!(mfind (wm n (shs n) (shs n)) p).isSome) = false := g2
    have hp : 1 ≤ p ∧ p ≤ n := by
      by_cases h : 1 ≤ p ∧ p ≤ n
      · exact h
      · rw [wm_out (S := shs n) hn.1 (by omega) (shs n) (Nat.le_refl _)] at g2
        simp at g2
    have eM : mfind (wm n (shs n) (shs n)) p = some (WR n (shs n) p) := by rw [wm_in hp hS (shs n) (Nat.le_refl _), if_pos (by omega)]
    intro _
    refine ⟨by kernel_rfl, ?_⟩
    intro _
    refine ⟨?_, rfl⟩
    unfold WV; rw [if_pos hn, if_pos hp]
    show V.tup [FV ((mfind (wm n (shs n) (shs n)) p).getD _), .test (((mfind (wm n (shs n) (shs n)) p).getD _).getD 4 (.n 0)).bool, .int .i64 0] = _
    rw [eM]; rfl
theorem rpage_ok (n p : Int) : SemF Try.prog 40 [.int .i64 n, .int .i64 p] ⟨0, 0, []⟩ (fun v _ => v = .int .i64 (pg n p) ∧ nameless v = true) := by
  refine enter tt_ok Try.func40 (nt := 9) (cd := body Try.f40) rfl rfl rfl rfl ?_
  intro _; refine ⟨fun g => ?_, fun g => ?_⟩
  · have g := of_decide_eq_true (show decide (p > n) = true from g)
    intro _
    refine ⟨?_, rfl⟩
    unfold pg; rw [if_pos g]
  · have g := of_decide_eq_false (show decide (p > n) = false from g)
    intro _
    refine ⟨?_, rfl⟩
    unfold pg; rw [if_neg g]
theorem rfaces_all (n : Int) : SemF Try.prog 25 [.int .i64 n] ⟨0, 0, []⟩ (FQ n) := by
  refine SemF.ret ?_
  refine enter tt_ok Try.func25 (nt := 57) (cd := body Try.f25) rfl rfl rfl rfl ?_
  have no : ¬ Cn n → Ret 0 (FQ n) (.tup [.nils, .int .i64 1]) ⟨0, 0, []⟩ := fun h => by
    have e : fr n = ([], 1) := by unfold fr; rw [if_neg h]
    refine ⟨[(0, none)], .tup [.grw 0 0, .int .i64 1], ⟨1, 0, [(0, .arr [.int .i64, .bool, .int .i64, .int .i64] .grow (.recs []))]⟩, rfl, rfl, rfl, rfl, ?_, ?_, ?_, ?_⟩
    · (repeat' first | exact trivial | exact rfl | refine And.intro ?_ ?_)
    · (repeat' first | exact trivial | exact rfl | refine And.intro ?_ ?_)
    · rw [e]; rfl
    · rw [e]
  intro _; refine ⟨fun g => ?_, fun g => ?_⟩
  · have g := of_decide_eq_true (show decide (n < 0) = true from g)
    intro _
    exact no (fun h => by have := h.1; omega)
  have g1 := of_decide_eq_false (show decide (n < 0) = false from g)
  intro _; refine ⟨fun g => ?_, fun g => ?_⟩
  · have g := of_decide_eq_true (show decide (n > 500) = true from g)
    intro _
    exact no (fun h => by have := h.2; omega)
  have g2 := of_decide_eq_false (show decide (n > 500) = false from g)
  have hn : Cn n := ⟨by omega, by omega⟩
  have e : fr n = (fcs n (shs n) (shs n), 0) := by unfold fr; rw [if_pos hn]
  obtain ⟨b1, b2, b3⟩ := shs_bd hn
  have eS2 : IntKind.i64.wrap ((IntKind.i64.wrap (n + 3)).tdiv 4) = (shs n : Int) := by
    have h1 : (n + 3).tdiv 4 = (shs n : Int) := by
      have : 0 ≤ (n + 3).tdiv 4 := Int.tdiv_nonneg (by omega) (by omega)
      unfold shs; omega
    rw [wrapS (n + 3) ⟨by omega, by omega⟩, h1]
    exact wrapS _ ⟨by omega, by omega⟩
  intro _; refine ⟨by omega, ?_⟩
  intro _
  refine loop2 tt_ok [4, 5, 6] [0] 1 (fun k : Fin (shs n + 1) => [(4, .int .i64 (shs n)), (5, .grw 0 (2 * k)), (6, .int .i64 ((k : Nat) + 1))]) (fun k => [(0, .arr [.int .i64, .bool, .int .i64, .int .i64] .grow (.recs (fcs n (shs n) k)))]) (fun k => shs n - k) ⟨0, by omega⟩ ?_
  intro _
  refine ⟨⟨th [(0, none)] 1, rfl, rfl, rfl, rfl, rfl, rfl, ?_, ?_⟩, ?_⟩
  · (repeat' first | exact trivial | exact rfl | refine And.intro ?_ ?_)
    exact eS2.symm
  · (repeat' first | exact trivial | exact rfl | refine And.intro ?_ ?_)
  intro ⟨k, hk⟩
  intro _; refine ⟨fun g => ?_, fun g => ?_⟩
  · have g := of_decide_eq_true (show decide ((k : Int) + 1 ≤ (shs n : Int)) = true from g)
    have w4 : IntKind.i64.wrap (4 * (shs n : Int)) = 4 * (shs n : Int) := wrapS _ ⟨by omega, by omega⟩
    have w2 : IntKind.i64.wrap (2 * ((k : Int) + 1)) = 2 * ((k : Int) + 1) := wrapS _ ⟨by omega, by omega⟩
    have ec : ((k + 1 : Nat) : Int) = (k : Int) + 1 := rfl
    have eP1 : 4 * (shs n : Int) + 2 - 2 * ((k + 1 : Nat) : Int) = IntKind.i64.wrap (IntKind.i64.wrap (IntKind.i64.wrap (4 * (shs n : Int)) + 2) - IntKind.i64.wrap (2 * ((k : Int) + 1))) := by
      rw [w4, w2, wrapS (4 * (shs n : Int) + 2) ⟨by omega, by omega⟩, wrapS _ ⟨by omega, by omega⟩, ec]
    have eP2 : 2 * ((k + 1 : Nat) : Int) - 1 = IntKind.i64.wrap (IntKind.i64.wrap (2 * ((k : Int) + 1)) - 1) := by
      rw [w2, wrapS _ ⟨by omega, by omega⟩, ec]
    have eP3 : 2 * ((k + 1 : Nat) : Int) = IntKind.i64.wrap (2 * ((k : Int) + 1)) := by rw [w2, ec]
    have eP4 : 4 * (shs n : Int) + 1 - 2 * ((k + 1 : Nat) : Int) = IntKind.i64.wrap (IntKind.i64.wrap (IntKind.i64.wrap (4 * (shs n : Int)) + 1) - IntKind.i64.wrap (2 * ((k : Int) + 1))) := by
      rw [w4, w2, wrapS (4 * (shs n : Int) + 1) ⟨by omega, by omega⟩, wrapS _ ⟨by omega, by omega⟩, ec]
    intro _
    refine call_pure [] (rpage_ok n (4 * (shs n : Int) + 2 - 2 * ((k + 1 : Nat) : Int))) rfl rfl rfl ?_ ?_ ?_
    · (repeat' first | exact trivial | exact rfl | refine And.intro ?_ ?_)
    · (repeat' first | exact trivial | exact rfl | refine And.intro ?_ ?_)
      exact eP1
    intro v hv _
    subst hv
    intro _
    refine call_pure [] (rpage_ok n (2 * ((k + 1 : Nat) : Int) - 1)) rfl rfl rfl ?_ ?_ ?_
    · (repeat' first | exact trivial | exact rfl | refine And.intro ?_ ?_)
    · (repeat' first | exact trivial | exact rfl | refine And.intro ?_ ?_)
      exact eP2
    intro v hv _
    subst hv
    intro _; refine ⟨rfl, ?_⟩
    intro _; refine ⟨fun g3 => by simp at g3, fun _ => ?_⟩
    refine ⟨⟨(fcs_len n (shs n) k).symm, by omega, by omega⟩, ?_⟩
    intro _
    refine call_pure [] (rpage_ok n (2 * ((k + 1 : Nat) : Int))) rfl rfl rfl ?_ ?_ ?_
    · (repeat' first | exact trivial | exact rfl | refine And.intro ?_ ?_)
    · (repeat' first | exact trivial | exact rfl | refine And.intro ?_ ?_)
      exact eP3
    intro v hv _
    subst hv
    intro _
    refine call_pure [] (rpage_ok n (4 * (shs n : Int) + 1 - 2 * ((k + 1 : Nat) : Int))) rfl rfl rfl ?_ ?_ ?_
    · (repeat' first | exact trivial | exact rfl | refine And.intro ?_ ?_)
    · (repeat' first | exact trivial | exact rfl | refine And.intro ?_ ?_)
      exact eP4
    intro v hv _
    subst hv
    intro _; refine ⟨rfl, ?_⟩
    intro _; refine ⟨fun g3 => by simp at g3, fun _ => ?_⟩
    refine ⟨⟨show 2 * k + 1 = List.length (fcs n (shs n) k ++ [_]) by rw [List.length_append, fcs_len]; rfl, by omega, by omega⟩, ?_⟩
    refine ⟨⟨k + 1, by omega⟩, by simp; omega, th [(0, some 4)] 1, rfl, rfl, rfl, rfl, rfl, rfl, ?_, ?_⟩
    · (repeat' first | exact trivial | exact rfl | refine And.intro ?_ ?_)
      show ((k + 1 : Nat) : Int) + 1 = IntKind.i64.wrap ((k : Int) + 1 + 1)
      rw [wrapS _ ⟨by omega, by omega⟩, ec]
    · (repeat' first | exact trivial | exact rfl | refine And.intro ?_ ?_)
  · have g := of_decide_eq_false (show decide ((k : Int) + 1 ≤ (shs n : Int)) = false from g)
    have hkl : k = shs n := by omega
    subst hkl
    intro _
    refine ⟨[(0, some 0)], .tup [.grw 0 (fr n).1.length, .int .i64 (fr n).2], ⟨1, 0, [(0, .arr [.int .i64, .bool, .int .i64, .int .i64] .grow (.recs (fr n).1))]⟩, rfl, rfl, rfl, rfl, ?_, ?_, ⟨rfl, rfl⟩⟩
    · rw [e]
      (repeat' first | exact trivial | exact rfl | refine And.intro ?_ ?_)
      exact fcs_len n _ _
    · rw [e]
      (repeat' first | exact trivial | exact rfl | refine And.intro ?_ ?_)
def EQs (a b : List D) : Bool := ((a.getD 0 (.n 0)).int == (b.getD 0 (.n 0)).int) && (((a.getD 1 (.n 0)).bool == (b.getD 1 (.n 0)).bool) && (((a.getD 2 (.n 0)).int == (b.getD 2 (.n 0)).int) && ((a.getD 3 (.n 0)).int == (b.getD 3 (.n 0)).int)))
theorem ints_self (a : List Int) (ha : a.length ≤ 9223372036854775806) : SemF Try.prog 31 [.slc 0 1 0 a.length, .slc 1 1 0 a.length] ⟨2, 2, [(0, .arr [.int .i64] .rd (.ints a)), (1, .arr [.int .i64] .rd (.ints a))]⟩
    (fun v _ => v = .bool true ∧ nameless v = true) := by
  refine enter tt_ok Try.func31 (nt := 26) (cd := body Try.f31) rfl rfl rfl rfl ?_
  intro _; refine ⟨fun g => ?_, fun g => ?_⟩
  · exfalso
    have g : ((a.length : Int) != (a.length : Int)) = true := g
    simp at g
  intro _
  refine loop2 tt_ok [5] [] 2 (fun k : Fin (a.length + 1) => [(5, .int .i64 (k : Nat))]) (fun _ => []) (fun k => a.length - k) ⟨0, by omega⟩ ?_
  intro _
  refine ⟨⟨th [] 2, rfl, rfl, rfl, rfl, rfl, rfl, ?_, ?_⟩, ?_⟩
  · (repeat' first | exact trivial | exact rfl | refine And.intro ?_ ?_)
  · (repeat' first | exact trivial | exact rfl | refine And.intro ?_ ?_)
  · intro ⟨k, hk⟩
    intro _; refine ⟨fun g => ?_, fun g => ?_⟩
    · have g := of_decide_eq_true (show decide ((k : Int) < (a.length : Int)) = true from g)
      have hkl : k < a.length := by omega
      have e0 : 0 + ((k : Int)).toNat = k := by omega
      intro _; refine ⟨show 0 ≤ (k : Int) ∧ (k : Int) < (a.length : Int) by omega, ?_⟩
      intro _; refine ⟨show 0 + ((k : Int)).toNat < a.length by omega, ?_⟩
      intro _; refine ⟨show 0 ≤ (k : Int) ∧ (k : Int) < (a.length : Int) by omega, ?_⟩
      intro _; refine ⟨show 0 + ((k : Int)).toNat < a.length by omega, ?_⟩
      intro _; refine ⟨by kernel_rfl, ?_⟩
      intro _; refine ⟨fun g2 => ?_, fun g2 => ?_⟩
      · exfalso
        have g2 : (a.getD (0 + ((k : Int)).toNat) 0 != a.getD (0 + ((k : Int)).toNat) 0) = true := g2
        simp at g2
      · refine ⟨⟨k + 1, by omega⟩, by simp; omega, th [] 2, rfl, rfl, rfl, rfl, rfl, rfl, ?_, ?_⟩
        · (repeat' first | exact trivial | exact rfl | refine And.intro ?_ ?_)
          exact (wrap_nat k (by omega)).symm
        · (repeat' first | exact trivial | exact rfl | refine And.intro ?_ ?_)
    · intro _
      exact ⟨rfl, rfl⟩
theorem recs_self (l : Rows) (ha : List.length l ≤ 9223372036854775806) : SemF Try.prog 26 [.slc 0 4 0 (List.length l), .slc 1 4 0 (List.length l)] ⟨2, 2, [(0, .arr [.int .i64, .bool, .int .i64, .int .i64] .rd (.recs l)), (1, .arr [.int .i64, .bool, .int .i64, .int .i64] .rd (.recs l))]⟩
    (fun v _ => v = .bool true ∧ nameless v = true) := by
  refine enter tt_ok Try.func26 (nt := 26) (cd := body Try.f26) rfl rfl rfl rfl ?_
  intro _; refine ⟨fun g => ?_, fun g => ?_⟩
  · exfalso
    have g : ((List.length l : Int) != (List.length l : Int)) = true := g
    simp at g
  intro _
  refine loop2 tt_ok [5] [] 2 (fun k : Fin (List.length l + 1) => [(5, .int .i64 (k : Nat))]) (fun _ => []) (fun k => List.length l - k) ⟨0, by omega⟩ ?_
  intro _
  refine ⟨⟨th [] 2, rfl, rfl, rfl, rfl, rfl, rfl, ?_, ?_⟩, ?_⟩
  · (repeat' first | exact trivial | exact rfl | refine And.intro ?_ ?_)
  · (repeat' first | exact trivial | exact rfl | refine And.intro ?_ ?_)
  · intro ⟨k, hk⟩
    intro _; refine ⟨fun g => ?_, fun g => ?_⟩
    · have g := of_decide_eq_true (show decide ((k : Int) < (List.length l : Int)) = true from g)
      have hkl : k < List.length l := by omega
      intro _; refine ⟨show 0 ≤ (k : Int) ∧ (k : Int) < (List.length l : Int) by omega, ?_⟩
      intro _; refine ⟨show 0 + ((k : Int)).toNat < List.length l by omega, ?_⟩
      intro _; refine ⟨show 0 ≤ (k : Int) ∧ (k : Int) < (List.length l : Int) by omega, ?_⟩
      intro _; refine ⟨show 0 + ((k : Int)).toNat < List.length l by omega, ?_⟩
      intro _; refine ⟨by kernel_rfl, ?_⟩
      intro _; refine ⟨fun g2 => ?_, fun g2 => ?_⟩
      · exfalso
        have g2 : (!(EQs (l.getD (0 + ((k : Int)).toNat) []) (l.getD (0 + ((k : Int)).toNat) []))) = true := g2
        simp [EQs] at g2
      · refine ⟨⟨k + 1, by omega⟩, by simp; omega, th [] 2, rfl, rfl, rfl, rfl, rfl, rfl, ?_, ?_⟩
        · (repeat' first | exact trivial | exact rfl | refine And.intro ?_ ?_)
          exact (wrap_nat k (by omega)).symm
        · (repeat' first | exact trivial | exact rfl | refine And.intro ?_ ?_)
    · intro _
      exact ⟨rfl, rfl⟩
def ix (S : Nat) (p : Int) : Nat :=
  if p ≤ 2 * S then (if p % 2 = 1 then 2 * (((p + 1) / 2).toNat - 1) else 2 * ((p / 2).toNat - 1) + 1)
  else (if p % 2 = 0 then 2 * (((4 * S + 2 - p) / 2).toNat - 1) else 2 * (((4 * S + 1 - p) / 2).toNat - 1) + 1)
theorem ix_lt {n p : Int} {S : Nat} (hp : 1 ≤ p ∧ p ≤ n) (hS : n ≤ 4 * S) : ix S p < 2 * S := by
  unfold ix; (repeat' split) <;> omega
theorem ix_hit {n p : Int} {S i : Nat} (hp : 1 ≤ p ∧ p ≤ n) (hS : n ≤ 4 * S) (hi : i < 2 * S) : (lfI n S i = p ∨ rtI n S i = p) ↔ i = ix S p := by
  unfold lfI rtI ix
  by_cases q : i % 2 = 0
  · simp only [if_pos q, pg_eq hp]
    (repeat' split) <;> omega
  · simp only [if_neg q, pg_eq hp]
    (repeat' split) <;> omega
theorem ix_rt {n p : Int} {S : Nat} (hp : 1 ≤ p ∧ p ≤ n) (hS : n ≤ 4 * S) : (rtI n S (ix S p) == p) = ((WR n S p).getD 4 (.n 0)).bool := by
  have h4 : ((WR n S p).getD 4 (.n 0)).bool = decide (p % 2 = 1) := by
    unfold WR
    by_cases h : p ≤ 2 * (S : Int)
    · rw [if_pos h]
      by_cases g : p % 2 = 1
      · rw [if_pos g, decide_eq_true g]; rfl
      · rw [if_neg g, decide_eq_false g]; rfl
    · rw [if_neg h]
      by_cases g : p % 2 = 0
      · rw [if_pos g, decide_eq_false (by omega)]; rfl
      · rw [if_neg g, decide_eq_true (by omega)]; rfl
  rw [h4]
  have hrt : ∀ i : Nat, rtI n S i = p ↔ (if i % 2 = 0 then 2 * ((i / 2 + 1 : Nat) : Int) - 1 = p else 4 * (S : Int) + 1 - 2 * ((i / 2 + 1 : Nat) : Int) = p) := fun i => by
    unfold rtI; split <;> rw [pg_eq hp]
  have : rtI n S (ix S p) = p ↔ p % 2 = 1 := by
    rw [hrt]
    unfold ix
    by_cases h : p ≤ 2 * (S : Int)
    · simp only [if_pos h]
      by_cases g : p % 2 = 1
      · simp only [if_pos g]; split <;> omega
      · simp only [if_neg g]; split <;> omega
    · simp only [if_neg h]
      by_cases g : p % 2 = 0
      · simp only [if_pos g]; split <;> omega
      · simp only [if_neg g]; split <;> omega
  by_cases h : p % 2 = 1
  · rw [decide_eq_true h, this.2 h]; simp
  · rw [decide_eq_false h]
    have : ¬ rtI n S (ix S p) = p := fun k => h (this.1 k)
    simpa using this
theorem ix_row {n p : Int} {S : Nat} (hp : 1 ≤ p ∧ p ≤ n) (hS : n ≤ 4 * S) : FV ((fcs n S S).getD (ix S p) []) = FV (WR n S p) := by
  rw [fcs_get n S S _ (ix_lt hp hS)]
  unfold WR ix
  by_cases h : p ≤ 2 * (S : Int)
  · simp only [if_pos h]
    by_cases g : p % 2 = 1
    · simp only [if_pos g]
      rw [if_pos (by omega)]
      have : 2 * (((p + 1) / 2).toNat - 1) / 2 + 1 = ((p + 1) / 2).toNat := by omega
      rw [this]; rfl
    · simp only [if_neg g]
      rw [if_neg (by omega)]
      have : (2 * ((p / 2).toNat - 1) + 1) / 2 + 1 = (p / 2).toNat := by omega
      rw [this]; rfl
  · simp only [if_neg h]
    by_cases g : p % 2 = 0
    · simp only [if_pos g]
      rw [if_pos (by omega)]
      have : 2 * (((4 * (S : Int) + 2 - p) / 2).toNat - 1) / 2 + 1 = ((4 * (S : Int) + 2 - p) / 2).toNat := by omega
      rw [this]; rfl
    · simp only [if_neg g]
      rw [if_neg (by omega)]
      have : (2 * (((4 * (S : Int) + 1 - p) / 2).toNat - 1) + 1) / 2 + 1 = ((4 * (S : Int) + 1 - p) / 2).toNat := by omega
      rw [this]; rfl
def sr (n : Int) (S : Nat) (p : Int) (k j : Nat) : Int := if ix S p < k then (((fcs n S S).getD (ix S p) []).getD j (.n 0)).int else 0
def sb (n : Int) (S : Nat) (p : Int) (k : Nat) : Bool := if ix S p < k then (((fcs n S S).getD (ix S p) []).getD 1 (.n 0)).bool else false
def fl (n : Int) (S : Nat) (p : Int) (k : Nat) : Bool := if ix S p < k then (((((fcs n S S).getD (ix S p) []).getD 3 (.n 0)).int) == p) else false
section
variable {n p : Int} {S k : Nat}
theorem sr_hit (h : k = ix S p) (j : Nat) : sr n S p (k + 1) j = (((fcs n S S).getD k []).getD j (.n 0)).int := by unfold sr; rw [if_pos (by omega), h]
theorem sb_hit (h : k = ix S p) : sb n S p (k + 1) = (((fcs n S S).getD k []).getD 1 (.n 0)).bool := by unfold sb; rw [if_pos (by omega), h]
theorem fl_hit (h : k = ix S p) : fl n S p (k + 1) = ((((fcs n S S).getD k []).getD 3 (.n 0)).int == p) := by unfold fl; rw [if_pos (by omega), h]
theorem sr_no (h : ¬ k = ix S p) (j : Nat) : sr n S p (k + 1) j = sr n S p k j := by
  unfold sr
  by_cases g : ix S p < k
  · rw [if_pos g, if_pos (by omega)]
  · rw [if_neg g, if_neg (by omega)]
theorem sb_no (h : ¬ k = ix S p) : sb n S p (k + 1) = sb n S p k := by
  unfold sb
  by_cases g : ix S p < k
  · rw [if_pos g, if_pos (by omega)]
  · rw [if_neg g, if_neg (by omega)]
theorem fl_no (h : ¬ k = ix S p) : fl n S p (k + 1) = fl n S p k := by
  unfold fl
  by_cases g : ix S p < k
  · rw [if_pos g, if_pos (by omega)]
  · rw [if_neg g, if_neg (by omega)]
end
theorem rwhere_ok (n p : Int) : SemF Try.prog 28 [.int .i64 n, .int .i64 p] ⟨0, 0, []⟩ (fun v _ => v = WV n p ∧ nameless v = true) := by
  refine enter tt_ok Try.func28 (nt := 64) (cd := body Try.f28) rfl rfl rfl rfl ?_
  intro _
  refine call_new [] (rfaces_all n) rfl rfl rfl rfl ?_ ?_ ?_
  · (repeat' first | exact trivial | exact rfl | refine And.intro ?_ ?_)
  · (repeat' first | exact trivial | exact rfl | refine And.intro ?_ ?_)
  intro v h' hv
  obtain ⟨rfl, rfl⟩ := hv
  refine ⟨[(1, some 0)], 2, [(1, .arr [.int .i64, .bool, .int .i64, .int .i64] .grow (.recs (fr n).1))], .tup [.grw 1 (fr n).1.length, .int .i64 (fr n).2], rfl, rfl, rfl, rfl, rfl, ?_, ?_, ?_⟩
  · (repeat' first | exact trivial | exact rfl | refine And.intro ?_ ?_)
  · (repeat' first | exact trivial | exact rfl | refine And.intro ?_ ?_)
  by_cases hn : Cn n
  rotate_left
  · have e : fr n = ([], 1) := by unfold fr; rw [if_neg hn]
    intro _; refine ⟨fun g => ?_, fun g => ?_⟩
    · intro _
      refine ⟨?_, rfl⟩
      unfold WV; rw [if_neg hn, e]; rfl
    · exfalso
      have g : ((fr n).2 != 0) = false := g
      rw [e] at g; simp at g
  have e0 : fr n = (fcs n (shs n) (shs n), 0) := by unfold fr; rw [if_pos hn]
  have e : (fr n).1 = fcs n (shs n) (shs n) := by rw [e0]
  have eL : List.length (fr n).1 = 2 * shs n := by rw [e]; exact fcs_len _ _ _
  obtain ⟨b1, b2, b3⟩ := shs_bd hn
  intro _; refine ⟨fun g => ?_, fun _ => ?_⟩
  · exfalso
    have g : ((fr n).2 != 0) = true := g
    rw [e0] at g; simp at g
  have eN : ¬ (1 ≤ p ∧ p ≤ n) → V.tup [NV, .bool false, .int .i64 4] = WV n p ∧ nameless (V.tup [NV, .bool false, .int .i64 4]) = true := fun h => ⟨by unfold WV; rw [if_pos hn, if_neg h], rfl⟩
  intro _; refine ⟨fun g => ?_, fun g => ?_⟩
  · have g := of_decide_eq_true (show decide (p < 1) = true from g)
    intro _
    exact eN (by omega)
  have g1 := of_decide_eq_false (show decide (p < 1) = false from g)
  intro _; refine ⟨fun g => ?_, fun g => ?_⟩
  · have g := of_decide_eq_true (show decide (p > n) = true from g)
    intro _
    exact eN (by omega)
  have g2' := of_decide_eq_false (show decide (p > n) = false from g)
  have hp : 1 ≤ p ∧ p ≤ n := ⟨by omega, by omega⟩
  have hS : n ≤ 4 * shs n := by omega
  intro _
  refine loop2 tt_ok [10, 11] [2] 3 (fun k : Fin (2 * shs n + 1) => [(10, .test (fl n (shs n) p (k : Nat))), (11, .int .i64 (k : Nat))]) (fun k => [(2, .cells [.int .i64 (sr n (shs n) p (k : Nat) 0), .test (sb n (shs n) p (k : Nat)), .int .i64 (sr n (shs n) p (k : Nat) 2), .int .i64 (sr n (shs n) p (k : Nat) 3)])]) (fun k => 2 * shs n - k) ⟨0, by omega⟩ ?_
  intro _
  refine ⟨⟨th [] 3, rfl, rfl, rfl, rfl, rfl, rfl, ?_, ?_⟩, ?_⟩
  · (repeat' first | exact trivial | exact rfl | refine And.intro ?_ ?_)
  · (repeat' first | exact trivial | exact rfl | refine And.intro ?_ ?_)
  intro ⟨k, hk⟩
  intro _; refine ⟨fun g => ?_, fun g => ?_⟩
  · have g := of_decide_eq_true (show decide ((k : Int) < ((fr n).1.length : Int)) = true from g)
    have hk2 : k < 2 * shs n := by omega
    have e3 : (k : Int).toNat = k := by omega
    have rk : (fr n).1.getD (k : Int).toNat [] = (fcs n (shs n) (shs n)).getD k [] := by rw [e3, e]
    have q2 : (((fr n).1.getD (k : Int).toNat []).getD 2 (D.n 0)).int = lfI n (shs n) k := by rw [e3, e]; exact g2 hk2
    have q3 : (((fr n).1.getD (k : Int).toNat []).getD 3 (D.n 0)).int = rtI n (shs n) k := by rw [e3, e]; exact g3 hk2
    have hix := ix_hit hp hS hk2
    intro _; refine ⟨show 0 ≤ (k : Int) ∧ (k : Int) < ((fr n).1.length : Int) by omega, ?_⟩
    intro _; refine ⟨show (k : Int).toNat < (fr n).1.length by omega, ?_⟩
    intro _; refine ⟨fun g4 => ?_, fun g4 => ?_⟩
    · have g4 : ((((fr n).1.getD (k : Int).toNat []).getD 2 (D.n 0)).int == p) = true := g4
      rw [q2] at g4
      have hk3 := hix.1 (.inl (by simpa using g4))
      intro _; refine ⟨show 0 ≤ (k : Int) ∧ (k : Int) < ((fr n).1.length : Int) by omega, ?_⟩
      intro _; refine ⟨show (k : Int).toNat < (fr n).1.length by omega, ?_⟩
      intro _; refine ⟨show 0 ≤ (k : Int) ∧ (k : Int) < ((fr n).1.length : Int) by omega, ?_⟩
      intro _; refine ⟨show (k : Int).toNat < (fr n).1.length by omega, ?_⟩
      refine ⟨⟨k + 1, by omega⟩, by simp; omega, th [] 3, rfl, rfl, rfl, rfl, rfl, rfl, ?_, ?_⟩
      · (repeat' first | exact trivial | exact rfl | refine And.intro ?_ ?_)
        · show fl n (shs n) p (k + 1) = ((((fr n).1.getD (k : Int).toNat []).getD 3 (D.n 0)).int == p)
          rw [rk]; exact fl_hit hk3
        · exact (wrap_nat k (by omega)).symm
      · (repeat' first | exact trivial | exact rfl | refine And.intro ?_ ?_)
        · show sr n (shs n) p (k + 1) 0 = (((fr n).1.getD (k : Int).toNat []).getD 0 (D.n 0)).int
          rw [rk]; exact sr_hit hk3 0
        · show sb n (shs n) p (k + 1) = (((fr n).1.getD (k : Int).toNat []).getD 1 (D.n 0)).bool
          rw [rk]; exact sb_hit hk3
        · show sr n (shs n) p (k + 1) 2 = (((fr n).1.getD (k : Int).toNat []).getD 2 (D.n 0)).int
          rw [rk]; exact sr_hit hk3 2
        · show sr n (shs n) p (k + 1) 3 = (((fr n).1.getD (k : Int).toNat []).getD 3 (D.n 0)).int
          rw [rk]; exact sr_hit hk3 3
    · have g4 : ((((fr n).1.getD (k : Int).toNat []).getD 2 (D.n 0)).int == p) = false := g4
      rw [q2] at g4
      intro _; refine ⟨show 0 ≤ (k : Int) ∧ (k : Int) < ((fr n).1.length : Int) by omega, ?_⟩
      intro _; refine ⟨show (k : Int).toNat < (fr n).1.length by omega, ?_⟩
      intro _; refine ⟨fun g5 => ?_, fun g5 => ?_⟩
      · have g5 : ((((fr n).1.getD (k : Int).toNat []).getD 3 (D.n 0)).int == p) = true := g5
        rw [q3] at g5
        have hk3 := hix.1 (.inr (by simpa using g5))
        intro _; refine ⟨show 0 ≤ (k : Int) ∧ (k : Int) < ((fr n).1.length : Int) by omega, ?_⟩
        intro _; refine ⟨show (k : Int).toNat < (fr n).1.length by omega, ?_⟩
        intro _; refine ⟨show 0 ≤ (k : Int) ∧ (k : Int) < ((fr n).1.length : Int) by omega, ?_⟩
        intro _; refine ⟨show (k : Int).toNat < (fr n).1.length by omega, ?_⟩
        refine ⟨⟨k + 1, by omega⟩, by simp; omega, th [] 3, rfl, rfl, rfl, rfl, rfl, rfl, ?_, ?_⟩
        · (repeat' first | exact trivial | exact rfl | refine And.intro ?_ ?_)
          · show fl n (shs n) p (k + 1) = ((((fr n).1.getD (k : Int).toNat []).getD 3 (D.n 0)).int == p)
            rw [rk]; exact fl_hit hk3
          · exact (wrap_nat k (by omega)).symm
        · (repeat' first | exact trivial | exact rfl | refine And.intro ?_ ?_)
          · show sr n (shs n) p (k + 1) 0 = (((fr n).1.getD (k : Int).toNat []).getD 0 (D.n 0)).int
            rw [rk]; exact sr_hit hk3 0
          · show sb n (shs n) p (k + 1) = (((fr n).1.getD (k : Int).toNat []).getD 1 (D.n 0)).bool
            rw [rk]; exact sb_hit hk3
          · show sr n (shs n) p (k + 1) 2 = (((fr n).1.getD (k : Int).toNat []).getD 2 (D.n 0)).int
            rw [rk]; exact sr_hit hk3 2
          · show sr n (shs n) p (k + 1) 3 = (((fr n).1.getD (k : Int).toNat []).getD 3 (D.n 0)).int
            rw [rk]; exact sr_hit hk3 3
      · have g5 : ((((fr n).1.getD (k : Int).toNat []).getD 3 (D.n 0)).int == p) = false := g5
        rw [q3] at g5
        have hk3 : ¬ k = ix (shs n) p := fun h => by
          rcases hix.2 h with h | h
          · rw [h] at g4; simp at g4
          · rw [h] at g5; simp at g5
        refine ⟨⟨k + 1, by omega⟩, by simp; omega, th [] 3, rfl, rfl, rfl, rfl, rfl, rfl, ?_, ?_⟩
        · (repeat' first | exact trivial | exact rfl | refine And.intro ?_ ?_)
          · exact fl_no hk3
          · exact (wrap_nat k (by omega)).symm
        · (repeat' first | exact trivial | exact rfl | refine And.intro ?_ ?_)
          · exact sr_no hk3 0
          · exact sb_no hk3
          · exact sr_no hk3 2
          · exact sr_no hk3 3
  · have g := of_decide_eq_false (show decide ((k : Int) < ((fr n).1.length : Int)) = false from g)
    have hkl : k = 2 * shs n := by omega
    subst hkl
    have hlt := ix_lt hp hS
    intro _
    refine ⟨?_, rfl⟩
    unfold WV; rw [if_pos hn, if_pos hp, ← ix_row hp hS, ← ix_rt hp hS, ← g3 hlt]
    show V.tup [.agg [.int .i64 (sr n (shs n) p (2 * shs n) 0), .test (sb n (shs n) p (2 * shs n)), .int .i64 (sr n (shs n) p (2 * shs n) 2), .int .i64 (sr n (shs n) p (2 * shs n) 3)], .test (fl n (shs n) p (2 * shs n)), .int .i64 0] = _
    unfold sr sb fl
    simp only [if_pos hlt]
    rfl
def e0 (l : Rows) (i : Nat) : Int := ((l.getD i []).getD 0 (.n 0)).int
def e1 (l : Rows) (i : Nat) : Bool := ((l.getD i []).getD 1 (.n 0)).bool
def e2 (l : Rows) (i : Nat) : Int := ((l.getD i []).getD 2 (.n 0)).int
def e3 (l : Rows) (i : Nat) : Int := ((l.getD i []).getD 3 (.n 0)).int
def okR (l : Rows) (k : Nat) : Prop := e0 l k = ((k / 2 + 1 : Nat) : Int) ∧ e1 l k = decide (k % 2 = 1) ∧ Cn (e2 l k) ∧ Cn (e3 l k)
instance (l : Rows) (k : Nat) : Decidable (okR l k) := inferInstanceAs (Decidable (_ ∧ _))
def OkL (l : Rows) : Prop := List.length l % 2 = 0 ∧ List.length l ≤ 250 ∧ ∀ k, k < List.length l → okR l k
instance (l : Rows) : Decidable (OkL l) := inferInstanceAs (Decidable (_ ∧ _))
def o1 (l : Rows) : Nat → List Int
  | 0 => []
  | j + 1 => o1 l j ++ [e3 l (2 * j), e2 l (2 * j + 1)]
def o2 (l : Rows) (S : Nat) : Nat → List Int
  | 0 => o1 l S
  | m + 1 => o2 l S m ++ [e3 l (2 * (S - 1 - m) + 1), e2 l (2 * (S - 1 - m))]
theorem o1_len (l : Rows) : ∀ j, (o1 l j).length = 2 * j
  | 0 => rfl
  | j + 1 => by simp only [o1, List.length_append, o1_len l j]; rfl
theorem o2_len (l : Rows) (S : Nat) : ∀ m, (o2 l S m).length = 2 * S + 2 * m
  | 0 => by simp only [o2, o1_len]; rfl
  | m + 1 => by simp only [o2, List.length_append, o2_len l S m]; rfl
def orr (l : Rows) : List Int × Int := if OkL l then (o2 l (List.length l / 2) (List.length l / 2), 0) else ([], 1)
theorem orr_no {l : Rows} (h : ¬ OkL l) : orr l = ([], 1) := by unfold orr; rw [if_neg h]
def OQ2 (l : Rows) : V → H → Prop := fun v h' => v = .tup [.grw 1 (orr l).1.length, .int .i64 (orr l).2] ∧ h' = ⟨2, 1, [(1, .arr [.int .i64] .grow (.ints (orr l).1))]⟩
theorem order_gen (l : Rows) (hl : List.length l ≤ 300) : SemF Try.prog 29 [.slc 0 4 0 (List.length l)] ⟨1, 1, [(0, .arr [.int .i64, .bool, .int .i64, .int .i64] .rd (.recs l))]⟩ (OQ2 l) := by
  refine SemF.ret ?_
  refine enter tt_ok Try.func29 (nt := 95) (cd := body Try.f29) rfl rfl rfl rfl ?_
  have em : ((List.length l : Nat) : Int).tmod 2 = ((List.length l % 2 : Nat) : Int) := by rw [Int.tmod_eq_emod_of_nonneg (by omega)]; omega
  intro _; refine ⟨by omega, ?_⟩
  intro _; refine ⟨fun g => ?_, fun g => ?_⟩
  · have g : (((List.length l : Nat) : Int).tmod 2 != 0) = true := g
    rw [em] at g
    have hno : ¬ OkL l := fun h => by rw [h.1] at g; simp at g
    intro _
    refine ⟨[(1, none)], .tup [.grw 1 0, .int .i64 1], ⟨2, 1, [(1, .arr [.int .i64] .grow (.ints []))]⟩, rfl, rfl, rfl, rfl, ?_, ?_, ?_, ?_⟩
    · (repeat' first | exact trivial | exact rfl | refine And.intro ?_ ?_)
    · (repeat' first | exact trivial | exact rfl | refine And.intro ?_ ?_)
    · rw [orr_no hno]; rfl
    · rw [orr_no hno]
  have g : (((List.length l : Nat) : Int).tmod 2 != 0) = false := g
  have hev : List.length l % 2 = 0 := by
    rw [em] at g
    simp at g; omega
  intro _; refine ⟨fun g => ?_, fun g => ?_⟩
  · have g := of_decide_eq_true (show decide (((List.length l : Nat) : Int) > 250) = true from g)
    have hno : ¬ OkL l := fun h => by have := h.2.1; omega
    intro _
    refine ⟨[(1, none)], .tup [.grw 1 0, .int .i64 1], ⟨2, 1, [(1, .arr [.int .i64] .grow (.ints []))]⟩, rfl, rfl, rfl, rfl, ?_, ?_, ?_, ?_⟩
    · (repeat' first | exact trivial | exact rfl | refine And.intro ?_ ?_)
    · (repeat' first | exact trivial | exact rfl | refine And.intro ?_ ?_)
    · rw [orr_no hno]; rfl
    · rw [orr_no hno]
  have g := of_decide_eq_false (show decide (((List.length l : Nat) : Int) > 250) = false from g)
  have hl2 : List.length l ≤ 250 := by omega
  obtain ⟨S, hS⟩ : ∃ S, S = List.length l / 2 := ⟨_, rfl⟩
  have hL : List.length l = 2 * S := by omega
  intro _
  refine loop2 tt_ok [21] [] 1 (fun k : { k : Nat // k ≤ List.length l ∧ ∀ i, i < k → okR l i } => [(21, .int .i64 k)]) (fun _ => []) (fun k => List.length l - k) ⟨0, by omega, fun i h => by omega⟩ ?_
  intro _
  refine ⟨⟨th [] 1, rfl, rfl, rfl, rfl, rfl, rfl, ?_, ?_⟩, ?_⟩
  · (repeat' first | exact trivial | exact rfl | refine And.intro ?_ ?_)
  · (repeat' first | exact trivial | exact rfl | refine And.intro ?_ ?_)
  intro ⟨k, hk, hall⟩
  intro _; refine ⟨fun g => ?_, fun g => ?_⟩
  · have g := of_decide_eq_true (show decide ((k : Int) < ((List.length l : Nat) : Int)) = true from g)
    have hk2 : k < List.length l := by omega
    have z0 : 0 + ((k : Int)).toNat = k := by omega
    have d1 : (k : Int).tdiv 2 = ((k / 2 : Nat) : Int) := by exact_mod_cast Int.ofNat_tdiv k 2
    have d2 : (k : Int).tmod 2 = ((k % 2 : Nat) : Int) := by rw [Int.tmod_eq_emod_of_nonneg (by omega)]; omega
    have d3 : (((k % 2 : Nat) : Int) == 1) = decide (k % 2 = 1) := by
      by_cases q : k % 2 = 1
      · rw [q, decide_eq_true rfl]; rfl
      · have : k % 2 = 0 := by omega
        rw [this]; rfl
    intro _; refine ⟨show 0 ≤ (k : Int) ∧ (k : Int) < ((List.length l : Nat) : Int) by omega, ?_⟩
    intro _; refine ⟨show 0 + (k : Int).toNat < List.length l by omega, ?_⟩
    intro _; refine ⟨by omega, ?_⟩
    intro _; refine ⟨by omega, ?_⟩
    have big : (!(e0 l (0 + (k : Int).toNat) == IntKind.i64.wrap (IntKind.i64.wrap ((k : Int).tdiv 2) + 1) && (e1 l (0 + (k : Int).toNat) == ((k : Int).tmod 2 == 1) && (e2 l (0 + (k : Int).toNat) == e2 l (0 + (k : Int).toNat) && e3 l (0 + (k : Int).toNat) == e3 l (0 + (k : Int).toNat))))) = !(e0 l k == ((k / 2 + 1 : Nat) : Int) && e1 l k == decide (k % 2 = 1)) := by
      rw [z0, d1, d2, d3, wrapS ((k / 2 : Nat) : Int) ⟨by omega, by omega⟩, wrapS _ ⟨by omega, by omega⟩]
      simp
    intro _; refine ⟨fun g => ?_, fun g => ?_⟩
    · have g : (!(e0 l (0 + (k : Int).toNat) == IntKind.i64.wrap (IntKind.i64.wrap ((k : Int).tdiv 2) + 1) && (e1 l (0 + (k : Int).toNat) == ((k : Int).tmod 2 == 1) && (e2 l (0 + (k : Int).toNat) == e2 l (0 + (k : Int).toNat) && e3 l (0 + (k : Int).toNat) == e3 l (0 + (k : Int).toNat))))) = true := g
      rw [big] at g
      have hno : ¬ OkL l := fun h => by
        obtain ⟨h1, h2, _⟩ := h.2.2 k hk2
        rw [h1, h2] at g; simp at g
      intro _
      refine ⟨[(1, none)], .tup [.grw 1 0, .int .i64 1], ⟨2, 1, [(1, .arr [.int .i64] .grow (.ints []))]⟩, rfl, rfl, rfl, rfl, ?_, ?_, ?_, ?_⟩
      · (repeat' first | exact trivial | exact rfl | refine And.intro ?_ ?_)
      · (repeat' first | exact trivial | exact rfl | refine And.intro ?_ ?_)
      · rw [orr_no hno]; rfl
      · rw [orr_no hno]
    have g : (!(e0 l (0 + (k : Int).toNat) == IntKind.i64.wrap (IntKind.i64.wrap ((k : Int).tdiv 2) + 1) && (e1 l (0 + (k : Int).toNat) == ((k : Int).tmod 2 == 1) && (e2 l (0 + (k : Int).toNat) == e2 l (0 + (k : Int).toNat) && e3 l (0 + (k : Int).toNat) == e3 l (0 + (k : Int).toNat))))) = false := g
    rw [big, Bool.not_eq_false', Bool.and_eq_true] at g
    have h0 : e0 l k = ((k / 2 + 1 : Nat) : Int) := by have := g.1; exact eq_of_beq this
    have h1 : e1 l k = decide (k % 2 = 1) := by have := g.2; exact eq_of_beq this
    intro _
    refine count_test _ _ _ ?_
    intro _; refine ⟨fun g => ?_, fun g => ?_⟩
    · have g : (!decide (Cn (e2 l (0 + (k : Int).toNat)))) = true := g
      rw [Bool.not_eq_true', z0] at g
      have g := of_decide_eq_false g
      have hno : ¬ OkL l := fun h => g (h.2.2 k hk2).2.2.1
      intro _
      refine ⟨[(1, none)], .tup [.grw 1 0, .int .i64 1], ⟨2, 1, [(1, .arr [.int .i64] .grow (.ints []))]⟩, rfl, rfl, rfl, rfl, ?_, ?_, ?_, ?_⟩
      · (repeat' first | exact trivial | exact rfl | refine And.intro ?_ ?_)
      · (repeat' first | exact trivial | exact rfl | refine And.intro ?_ ?_)
      · rw [orr_no hno]; rfl
      · rw [orr_no hno]
    have g : (!decide (Cn (e2 l (0 + (k : Int).toNat)))) = false := g
    rw [Bool.not_eq_false', z0] at g
    have h2 := of_decide_eq_true g
    intro _
    refine count_test _ _ _ ?_
    intro _; refine ⟨fun g => ?_, fun g => ?_⟩
    · have g : (!decide (Cn (e3 l (0 + (k : Int).toNat)))) = true := g
      rw [Bool.not_eq_true', z0] at g
      have g := of_decide_eq_false g
      have hno : ¬ OkL l := fun h => g (h.2.2 k hk2).2.2.2
      intro _
      refine ⟨[(1, none)], .tup [.grw 1 0, .int .i64 1], ⟨2, 1, [(1, .arr [.int .i64] .grow (.ints []))]⟩, rfl, rfl, rfl, rfl, ?_, ?_, ?_, ?_⟩
      · (repeat' first | exact trivial | exact rfl | refine And.intro ?_ ?_)
      · (repeat' first | exact trivial | exact rfl | refine And.intro ?_ ?_)
      · rw [orr_no hno]; rfl
      · rw [orr_no hno]
    have g : (!decide (Cn (e3 l (0 + (k : Int).toNat)))) = false := g
    rw [Bool.not_eq_false', z0] at g
    have h3 := of_decide_eq_true g
    refine ⟨⟨k + 1, by omega, fun i hi => ?_⟩, by simp; omega, th [] 1, rfl, rfl, rfl, rfl, rfl, rfl, ?_, ?_⟩
    · by_cases q : i = k
      · subst q; exact ⟨h0, h1, h2, h3⟩
      · exact hall i (by omega)
    · (repeat' first | exact trivial | exact rfl | refine And.intro ?_ ?_)
      exact (wrap_nat k (by omega)).symm
    · (repeat' first | exact trivial | exact rfl | refine And.intro ?_ ?_)
  have g := of_decide_eq_false (show decide ((k : Int) < ((List.length l : Nat) : Int)) = false from g)
  have hok : OkL l := ⟨hev, hl2, fun i hi => hall i (by omega)⟩
  have hor : orr l = (o2 l S S, 0) := by unfold orr; rw [if_pos hok, hS]
  intro _
  refine loop2 tt_ok [7, 8] [1] 2 (fun j : Fin (S + 1) => [(7, .grw 1 (2 * j)), (8, .int .i64 (2 * (j : Nat)))]) (fun j => [(1, .arr [.int .i64] .grow (.ints (o1 l j)))]) (fun j => S - j) ⟨0, by omega⟩ ?_
  intro _
  refine ⟨⟨th [(1, none)] 2, rfl, rfl, rfl, rfl, rfl, rfl, ?_, ?_⟩, ?_⟩
  · (repeat' first | exact trivial | exact rfl | refine And.intro ?_ ?_)
  · (repeat' first | exact trivial | exact rfl | refine And.intro ?_ ?_)
  intro ⟨j, hj⟩
  intro _; refine ⟨fun g => ?_, fun g => ?_⟩
  · have g := of_decide_eq_true (show decide (2 * (j : Int) < ((List.length l : Nat) : Int)) = true from g)
    have hj2 : j < S := by omega
    have w1 : IntKind.i64.wrap (2 * (j : Int) + 1) = 2 * (j : Int) + 1 := wrapS _ ⟨by omega, by omega⟩
    intro _; refine ⟨show 0 ≤ 2 * (j : Int) ∧ 2 * (j : Int) < ((List.length l : Nat) : Int) by omega, ?_⟩
    intro _; refine ⟨show 0 + (2 * (j : Int)).toNat < List.length l by omega, ?_⟩
    intro _; refine ⟨show 0 ≤ IntKind.i64.wrap (2 * (j : Int) + 1) ∧ IntKind.i64.wrap (2 * (j : Int) + 1) < ((List.length l : Nat) : Int) by rw [w1]; omega, ?_⟩
    intro _; refine ⟨show 0 + (IntKind.i64.wrap (2 * (j : Int) + 1)).toNat < List.length l by rw [w1]; omega, ?_⟩
    intro _
    refine Or.inr ?_
    intro _; refine ⟨rfl, ?_⟩
    intro _; refine ⟨fun g3 => by simp at g3, fun _ => ?_⟩
    refine ⟨⟨(o1_len l j).symm, by omega, by omega⟩, ?_⟩
    intro _
    refine ⟨by kernel_rfl, ?_⟩
    refine ⟨⟨j + 1, by omega⟩, by simp; omega, th [(1, some 3)] 2, rfl, rfl, rfl, rfl, rfl, rfl, ?_, ?_⟩
    · (repeat' first | exact trivial | exact rfl | refine And.intro ?_ ?_)
      show 2 * ((j + 1 : Nat) : Int) = IntKind.i64.wrap (2 * (j : Int) + 2)
      rw [wrapS _ ⟨by omega, by omega⟩]; omega
    · (repeat' first | exact trivial | exact rfl | refine And.intro ?_ ?_)
      show o1 l (j + 1) = o1 l j ++ [e3 l (0 + (2 * (j : Int)).toNat), e2 l (0 + (IntKind.i64.wrap (2 * (j : Int) + 1)).toNat)]
      have y1 : 0 + (2 * (j : Int)).toNat = 2 * j := by omega
      have y2 : 0 + (2 * (j : Int) + 1).toNat = 2 * j + 1 := by omega
      rw [w1, y1, y2]; rfl
  · have g := of_decide_eq_false (show decide (2 * (j : Int) < ((List.length l : Nat) : Int)) = false from g)
    have hjS : j = S := by omega
    subst hjS
    intro _
    refine loop2 tt_ok [7, 9] [1] 2 (fun m : Fin (j + 1) => [(7, .grw 1 (2 * j + 2 * m)), (9, .int .i64 (2 * (j : Int) - 2 - 2 * (m : Nat)))]) (fun m => [(1, .arr [.int .i64] .grow (.ints (o2 l j m)))]) (fun m => j - m) ⟨0, by omega⟩ ?_
    intro _
    refine ⟨⟨th [] 2, rfl, rfl, rfl, rfl, rfl, rfl, ?_, ?_⟩, ?_⟩
    · (repeat' first | exact trivial | exact rfl | refine And.intro ?_ ?_)
      show 2 * (j : Int) - 2 - 2 * ((0 : Nat) : Int) = IntKind.i64.wrap (((List.length l : Nat) : Int) - 2)
      rw [wrapS _ ⟨by omega, by omega⟩]; omega
    · (repeat' first | exact trivial | exact rfl | refine And.intro ?_ ?_)
    intro ⟨m, hm⟩
    intro _; refine ⟨fun g => ?_, fun g => ?_⟩
    · have g := of_decide_eq_true (show decide (2 * (j : Int) - 2 - 2 * (m : Int) ≥ 0) = true from g)
      have w1 : IntKind.i64.wrap (2 * (j : Int) - 2 - 2 * (m : Int) + 1) = 2 * (j : Int) - 2 - 2 * (m : Int) + 1 := wrapS _ ⟨by omega, by omega⟩
      intro _; refine ⟨show 0 ≤ IntKind.i64.wrap (2 * (j : Int) - 2 - 2 * (m : Int) + 1) ∧ IntKind.i64.wrap (2 * (j : Int) - 2 - 2 * (m : Int) + 1) < ((List.length l : Nat) : Int) by rw [w1]; omega, ?_⟩
      intro _; refine ⟨show 0 + (IntKind.i64.wrap (2 * (j : Int) - 2 - 2 * (m : Int) + 1)).toNat < List.length l by rw [w1]; omega, ?_⟩
      intro _; refine ⟨show 0 ≤ 2 * (j : Int) - 2 - 2 * (m : Int) ∧ 2 * (j : Int) - 2 - 2 * (m : Int) < ((List.length l : Nat) : Int) by omega, ?_⟩
      intro _; refine ⟨show 0 + (2 * (j : Int) - 2 - 2 * (m : Int)).toNat < List.length l by omega, ?_⟩
      intro _
      refine Or.inr ?_
      intro _; refine ⟨rfl, ?_⟩
      intro _; refine ⟨fun g3 => by simp at g3, fun _ => ?_⟩
      refine ⟨⟨(o2_len l j m).symm, by omega, by omega⟩, ?_⟩
      intro _
      refine ⟨by kernel_rfl, ?_⟩
      refine ⟨⟨m + 1, by omega⟩, by simp; omega, th [(1, some 3)] 2, rfl, rfl, rfl, rfl, rfl, rfl, ?_, ?_⟩
      · (repeat' first | exact trivial | exact rfl | refine And.intro ?_ ?_)
        show 2 * (j : Int) - 2 - 2 * ((m + 1 : Nat) : Int) = IntKind.i64.wrap (2 * (j : Int) - 2 - 2 * (m : Int) - 2)
        rw [wrapS _ ⟨by omega, by omega⟩]; omega
      · (repeat' first | exact trivial | exact rfl | refine And.intro ?_ ?_)
        show o2 l j (m + 1) = o2 l j m ++ [e3 l (0 + (IntKind.i64.wrap (2 * (j : Int) - 2 - 2 * (m : Int) + 1)).toNat), e2 l (0 + (2 * (j : Int) - 2 - 2 * (m : Int)).toNat)]
        have y1 : 0 + (2 * (j : Int) - 2 - 2 * (m : Int) + 1).toNat = 2 * (j - 1 - m) + 1 := by omega
        have y2 : 0 + (2 * (j : Int) - 2 - 2 * (m : Int)).toNat = 2 * (j - 1 - m) := by omega
        rw [w1, y1, y2]; rfl
    · have g := of_decide_eq_false (show decide (2 * (j : Int) - 2 - 2 * (m : Int) ≥ 0) = false from g)
      have hmj : m = j := by omega
      subst hmj
      intro _
      refine ⟨[(1, some 1)], .tup [.grw 1 (orr l).1.length, .int .i64 (orr l).2], ⟨2, 1, [(1, .arr [.int .i64] .grow (.ints (orr l).1))]⟩, rfl, rfl, rfl, rfl, ?_, ?_, ⟨rfl, rfl⟩⟩
      · rw [hor]
        (repeat' first | exact trivial | exact rfl | refine And.intro ?_ ?_)
        exact o2_len l m m
      · rw [hor]
        (repeat' first | exact trivial | exact rfl | refine And.intro ?_ ?_)
theorem form_ok (l : Rows) (hl : List.length l ≤ 300) : SemF Try.prog 41 [.slc 0 4 0 (List.length l)] ⟨1, 1, [(0, .arr [.int .i64, .bool, .int .i64, .int .i64] .rd (.recs l))]⟩ (fun v _ => v = .test (decide (OkL l)) ∧ nameless v = true) := by
  refine SemF.test ?_
  refine enter tt_ok Try.func41 (nt := 58) (cd := body Try.f41) rfl rfl rfl rfl ?_
  have em : ((List.length l : Nat) : Int).tmod 2 = ((List.length l % 2 : Nat) : Int) := by rw [Int.tmod_eq_emod_of_nonneg (by omega)]; omega
  intro _
  refine loop2 tt_ok [3] [] 1 (fun k : { k : Nat // k ≤ List.length l ∧ ∀ i, i < k → okR l i } => [(3, .int .i64 k)]) (fun _ => []) (fun k => List.length l - k) ⟨0, by omega, fun i h => by omega⟩ ?_
  intro _
  refine ⟨⟨th [] 1, rfl, rfl, rfl, rfl, rfl, rfl, ?_, ?_⟩, ?_⟩
  · (repeat' first | exact trivial | exact rfl | refine And.intro ?_ ?_)
  · (repeat' first | exact trivial | exact rfl | refine And.intro ?_ ?_)
  intro ⟨k, hk, hall⟩
  intro _; refine ⟨fun g => ?_, fun g => ?_⟩
  · have g := of_decide_eq_true (show decide ((k : Int) < ((List.length l : Nat) : Int)) = true from g)
    have hk2 : k < List.length l := by omega
    have z0 : 0 + ((k : Int)).toNat = k := by omega
    have d1 : (k : Int).tdiv 2 = ((k / 2 : Nat) : Int) := by exact_mod_cast Int.ofNat_tdiv k 2
    have d2 : (k : Int).tmod 2 = ((k % 2 : Nat) : Int) := by rw [Int.tmod_eq_emod_of_nonneg (by omega)]; omega
    have d3 : (((k % 2 : Nat) : Int) == 1) = decide (k % 2 = 1) := by
      by_cases q : k % 2 = 1
      · rw [q, decide_eq_true rfl]; rfl
      · have : k % 2 = 0 := by omega
        rw [this]; rfl
    have d4 : IntKind.i64.wrap (IntKind.i64.wrap ((k : Int).tdiv 2) + 1) = ((k / 2 + 1 : Nat) : Int) := by
      rw [d1, wrapS ((k / 2 : Nat) : Int) ⟨by omega, by omega⟩, wrapS _ ⟨by omega, by omega⟩]; rfl
    intro _; refine ⟨show 0 ≤ (k : Int) ∧ (k : Int) < ((List.length l : Nat) : Int) by omega, ?_⟩
    intro _; refine ⟨show 0 + (k : Int).toNat < List.length l by omega, ?_⟩
    intro _; refine ⟨by omega, ?_⟩
    intro _; refine ⟨fun g => ?_, fun g => ?_⟩
    · have g : (e0 l (0 + (k : Int).toNat) != IntKind.i64.wrap (IntKind.i64.wrap ((k : Int).tdiv 2) + 1)) = true := g
      rw [d4, z0] at g
      have hno : ¬ OkL l := fun h => by
        rw [(h.2.2 k hk2).1] at g; simp at g
      intro _
      exact ⟨false, .inl rfl, by rw [decide_eq_false hno], rfl⟩
    have g : (e0 l (0 + (k : Int).toNat) != IntKind.i64.wrap (IntKind.i64.wrap ((k : Int).tdiv 2) + 1)) = false := g
    rw [d4, z0] at g
    have h0 : e0 l k = ((k / 2 + 1 : Nat) : Int) := by simpa using g
    intro _; refine ⟨by omega, ?_⟩
    intro _; refine ⟨fun g => ?_, fun g => ?_⟩
    · have g : (e1 l (0 + (k : Int).toNat) != ((k : Int).tmod 2 == 1)) = true := g
      rw [d2, d3, z0] at g
      have hno : ¬ OkL l := fun h => by
        rw [(h.2.2 k hk2).2.1] at g; simp at g
      intro _
      exact ⟨false, .inl rfl, by rw [decide_eq_false hno], rfl⟩
    have g : (e1 l (0 + (k : Int).toNat) != ((k : Int).tmod 2 == 1)) = false := g
    rw [d2, d3, z0] at g
    have h1 : e1 l k = decide (k % 2 = 1) := by simpa using g
    intro _; refine ⟨fun g => ?_, fun g => ?_⟩
    · have g := of_decide_eq_true (show decide (e2 l (0 + (k : Int).toNat) < 0) = true from g)
      rw [z0] at g
      have hno : ¬ OkL l := fun h => by have := (h.2.2 k hk2).2.2; unfold Cn at this; omega
      intro _
      exact ⟨false, .inl rfl, by rw [decide_eq_false hno], rfl⟩
    have h2 := of_decide_eq_false (show decide (e2 l (0 + (k : Int).toNat) < 0) = false from g)
    rw [z0] at h2
    intro _; refine ⟨fun g => ?_, fun g => ?_⟩
    · have g := of_decide_eq_true (show decide (e2 l (0 + (k : Int).toNat) > 500) = true from g)
      rw [z0] at g
      have hno : ¬ OkL l := fun h => by have := (h.2.2 k hk2).2.2; unfold Cn at this; omega
      intro _
      exact ⟨false, .inl rfl, by rw [decide_eq_false hno], rfl⟩
    have h3 := of_decide_eq_false (show decide (e2 l (0 + (k : Int).toNat) > 500) = false from g)
    rw [z0] at h3
    intro _; refine ⟨fun g => ?_, fun g => ?_⟩
    · have g := of_decide_eq_true (show decide (e3 l (0 + (k : Int).toNat) < 0) = true from g)
      rw [z0] at g
      have hno : ¬ OkL l := fun h => by have := (h.2.2 k hk2).2.2; unfold Cn at this; omega
      intro _
      exact ⟨false, .inl rfl, by rw [decide_eq_false hno], rfl⟩
    have h4 := of_decide_eq_false (show decide (e3 l (0 + (k : Int).toNat) < 0) = false from g)
    rw [z0] at h4
    intro _; refine ⟨fun g => ?_, fun g => ?_⟩
    · have g := of_decide_eq_true (show decide (e3 l (0 + (k : Int).toNat) > 500) = true from g)
      rw [z0] at g
      have hno : ¬ OkL l := fun h => by have := (h.2.2 k hk2).2.2; unfold Cn at this; omega
      intro _
      exact ⟨false, .inl rfl, by rw [decide_eq_false hno], rfl⟩
    have h5 := of_decide_eq_false (show decide (e3 l (0 + (k : Int).toNat) > 500) = false from g)
    rw [z0] at h5
    refine ⟨⟨k + 1, by omega, fun i hi => ?_⟩, by simp; omega, th [] 1, rfl, rfl, rfl, rfl, rfl, rfl, ?_, ?_⟩
    · by_cases q : i = k
      · subst q; exact ⟨h0, h1, ⟨by omega, by omega⟩, ⟨by omega, by omega⟩⟩
      · exact hall i (by omega)
    · (repeat' first | exact trivial | exact rfl | refine And.intro ?_ ?_)
      exact (wrap_nat k (by omega)).symm
    · (repeat' first | exact trivial | exact rfl | refine And.intro ?_ ?_)
  have g := of_decide_eq_false (show decide ((k : Int) < ((List.length l : Nat) : Int)) = false from g)
  have hkl : k = List.length l := by omega
  intro _; refine ⟨by omega, ?_⟩
  intro _; refine ⟨fun g => ?_, fun g => ?_⟩
  · have g : (((List.length l : Nat) : Int).tmod 2 == 0) = true := g
    rw [em] at g
    have hev : List.length l % 2 = 0 := by simp at g; omega
    intro _
    refine ⟨_, .inr rfl, ?_, rfl⟩
    have : decide (OkL l) = decide (((List.length l : Nat) : Int) ≤ 250) := by
      by_cases q : ((List.length l : Nat) : Int) ≤ 250
      · rw [decide_eq_true q, decide_eq_true (show OkL l from ⟨hev, by omega, fun i hi => hall i (by omega)⟩)]
      · rw [decide_eq_false q, decide_eq_false (fun h : OkL l => q (by have := h.2.1; omega))]
    rw [this]
  · have g : (((List.length l : Nat) : Int).tmod 2 == 0) = false := g
    rw [em] at g
    have hno : ¬ OkL l := fun h => by rw [h.1] at g; simp at g
    intro _
    exact ⟨false, .inl rfl, by rw [decide_eq_false hno], rfl⟩
theorem rorder_gen (l : Rows) (hl : List.length l ≤ 300) : SemF Try.prog 30 [.slc 0 4 0 (List.length l)] ⟨1, 1, [(0, .arr [.int .i64, .bool, .int .i64, .int .i64] .rd (.recs l))]⟩ (OQ2 l) := by
  refine SemF.ret ?_
  refine enter tt_ok Try.func30 (nt := 58) (cd := body Try.f30) rfl rfl rfl rfl ?_
  intro _
  refine call_pure [(0, some 0)] (form_ok l hl) rfl rfl rfl ?_ ?_ ?_
  · (repeat' first | exact trivial | exact rfl | refine And.intro ?_ ?_)
  · (repeat' first | exact trivial | exact rfl | refine And.intro ?_ ?_)
  intro v hv _
  subst hv
  intro _; refine ⟨fun g => ?_, fun g => ?_⟩
  · have g : (!decide (OkL l)) = true := g
    rw [Bool.not_eq_true'] at g
    have hno := of_decide_eq_false g
    intro _
    refine ⟨[(1, none)], .tup [.grw 1 0, .int .i64 1], ⟨2, 1, [(1, .arr [.int .i64] .grow (.ints []))]⟩, rfl, rfl, rfl, rfl, ?_, ?_, ?_, ?_⟩
    · (repeat' first | exact trivial | exact rfl | refine And.intro ?_ ?_)
    · (repeat' first | exact trivial | exact rfl | refine And.intro ?_ ?_)
    · rw [orr_no hno]; rfl
    · rw [orr_no hno]
  have g : (!decide (OkL l)) = false := g
  rw [Bool.not_eq_false'] at g
  have hok := of_decide_eq_true g
  have hl2 := hok.2.1
  obtain ⟨S, hS⟩ : ∃ S, S = List.length l / 2 := ⟨_, rfl⟩
  have hL : List.length l = 2 * S := by have := hok.1; omega
  have hor : orr l = (o2 l S S, 0) := by unfold orr; rw [if_pos hok, hS]
  intro _
  refine loop2 tt_ok [4, 5] [1] 2 (fun j : Fin (S + 1) => [(4, .grw 1 (2 * j)), (5, .int .i64 (2 * (j : Nat)))]) (fun j => [(1, .arr [.int .i64] .grow (.ints (o1 l j)))]) (fun j => S - j) ⟨0, by omega⟩ ?_
  intro _
  refine ⟨⟨th [(1, none)] 2, rfl, rfl, rfl, rfl, rfl, rfl, ?_, ?_⟩, ?_⟩
  · (repeat' first | exact trivial | exact rfl | refine And.intro ?_ ?_)
  · (repeat' first | exact trivial | exact rfl | refine And.intro ?_ ?_)
  intro ⟨j, hj⟩
  intro _; refine ⟨fun g => ?_, fun g => ?_⟩
  · have g := of_decide_eq_true (show decide (2 * (j : Int) < ((List.length l : Nat) : Int)) = true from g)
    have hj2 : j < S := by omega
    have w1 : IntKind.i64.wrap (2 * (j : Int) + 1) = 2 * (j : Int) + 1 := wrapS _ ⟨by omega, by omega⟩
    intro _; refine ⟨show 0 ≤ 2 * (j : Int) ∧ 2 * (j : Int) < ((List.length l : Nat) : Int) by omega, ?_⟩
    intro _; refine ⟨show 0 + (2 * (j : Int)).toNat < List.length l by omega, ?_⟩
    intro _; refine ⟨rfl, ?_⟩
    intro _; refine ⟨fun g3 => by simp at g3, fun _ => ?_⟩
    refine ⟨⟨(o1_len l j).symm, by omega, by omega⟩, ?_⟩
    intro _; refine ⟨show 0 ≤ IntKind.i64.wrap (2 * (j : Int) + 1) ∧ IntKind.i64.wrap (2 * (j : Int) + 1) < ((List.length l : Nat) : Int) by rw [w1]; omega, ?_⟩
    intro _; refine ⟨show 0 + (IntKind.i64.wrap (2 * (j : Int) + 1)).toNat < List.length l by rw [w1]; omega, ?_⟩
    intro _; refine ⟨rfl, ?_⟩
    intro _; refine ⟨fun g3 => by simp at g3, fun _ => ?_⟩
    refine ⟨⟨show 2 * j + 1 = List.length (o1 l j ++ [_]) by rw [List.length_append, o1_len]; rfl, by omega, by omega⟩, ?_⟩
    refine ⟨⟨j + 1, by omega⟩, by simp; omega, th [(1, some 5)] 2, rfl, rfl, rfl, rfl, rfl, rfl, ?_, ?_⟩
    · (repeat' first | exact trivial | exact rfl | refine And.intro ?_ ?_)
      show 2 * ((j + 1 : Nat) : Int) = IntKind.i64.wrap (2 * (j : Int) + 2)
      rw [wrapS _ ⟨by omega, by omega⟩]; omega
    · (repeat' first | exact trivial | exact rfl | refine And.intro ?_ ?_)
      show o1 l (j + 1) = o1 l j ++ [e3 l (0 + (2 * (j : Int)).toNat)] ++ [e2 l (0 + (IntKind.i64.wrap (2 * (j : Int) + 1)).toNat)]
      have y1 : 0 + (2 * (j : Int)).toNat = 2 * j := by omega
      have y2 : 0 + (2 * (j : Int) + 1).toNat = 2 * j + 1 := by omega
      rw [w1, y1, y2, List.append_assoc]; rfl
  · have g := of_decide_eq_false (show decide (2 * (j : Int) < ((List.length l : Nat) : Int)) = false from g)
    have hjS : j = S := by omega
    subst hjS
    intro _
    refine loop2 tt_ok [4, 6] [1] 2 (fun m : Fin (j + 1) => [(4, .grw 1 (2 * j + 2 * m)), (6, .int .i64 (2 * (j : Int) - 2 - 2 * (m : Nat)))]) (fun m => [(1, .arr [.int .i64] .grow (.ints (o2 l j m)))]) (fun m => j - m) ⟨0, by omega⟩ ?_
    intro _
    refine ⟨⟨th [] 2, rfl, rfl, rfl, rfl, rfl, rfl, ?_, ?_⟩, ?_⟩
    · (repeat' first | exact trivial | exact rfl | refine And.intro ?_ ?_)
      show 2 * (j : Int) - 2 - 2 * ((0 : Nat) : Int) = IntKind.i64.wrap (((List.length l : Nat) : Int) - 2)
      rw [wrapS _ ⟨by omega, by omega⟩]; omega
    · (repeat' first | exact trivial | exact rfl | refine And.intro ?_ ?_)
    intro ⟨m, hm⟩
    intro _; refine ⟨fun g => ?_, fun g => ?_⟩
    · have g := of_decide_eq_true (show decide (2 * (j : Int) - 2 - 2 * (m : Int) ≥ 0) = true from g)
      have w1 : IntKind.i64.wrap (2 * (j : Int) - 2 - 2 * (m : Int) + 1) = 2 * (j : Int) - 2 - 2 * (m : Int) + 1 := wrapS _ ⟨by omega, by omega⟩
      intro _; refine ⟨show 0 ≤ IntKind.i64.wrap (2 * (j : Int) - 2 - 2 * (m : Int) + 1) ∧ IntKind.i64.wrap (2 * (j : Int) - 2 - 2 * (m : Int) + 1) < ((List.length l : Nat) : Int) by rw [w1]; omega, ?_⟩
      intro _; refine ⟨show 0 + (IntKind.i64.wrap (2 * (j : Int) - 2 - 2 * (m : Int) + 1)).toNat < List.length l by rw [w1]; omega, ?_⟩
      intro _; refine ⟨rfl, ?_⟩
      intro _; refine ⟨fun g3 => by simp at g3, fun _ => ?_⟩
      refine ⟨⟨(o2_len l j m).symm, by omega, by omega⟩, ?_⟩
      intro _; refine ⟨show 0 ≤ 2 * (j : Int) - 2 - 2 * (m : Int) ∧ 2 * (j : Int) - 2 - 2 * (m : Int) < ((List.length l : Nat) : Int) by omega, ?_⟩
      intro _; refine ⟨show 0 + (2 * (j : Int) - 2 - 2 * (m : Int)).toNat < List.length l by omega, ?_⟩
      intro _; refine ⟨rfl, ?_⟩
      intro _; refine ⟨fun g3 => by simp at g3, fun _ => ?_⟩
      refine ⟨⟨show 2 * j + 2 * m + 1 = List.length (o2 l j m ++ [_]) by rw [List.length_append, o2_len]; rfl, by omega, by omega⟩, ?_⟩
      refine ⟨⟨m + 1, by omega⟩, by simp; omega, th [(1, some 5)] 2, rfl, rfl, rfl, rfl, rfl, rfl, ?_, ?_⟩
      · (repeat' first | exact trivial | exact rfl | refine And.intro ?_ ?_)
        show 2 * (j : Int) - 2 - 2 * ((m + 1 : Nat) : Int) = IntKind.i64.wrap (2 * (j : Int) - 2 - 2 * (m : Int) - 2)
        rw [wrapS _ ⟨by omega, by omega⟩]; omega
      · (repeat' first | exact trivial | exact rfl | refine And.intro ?_ ?_)
        show o2 l j (m + 1) = o2 l j m ++ [e3 l (0 + (IntKind.i64.wrap (2 * (j : Int) - 2 - 2 * (m : Int) + 1)).toNat)] ++ [e2 l (0 + (2 * (j : Int) - 2 - 2 * (m : Int)).toNat)]
        have y1 : 0 + (2 * (j : Int) - 2 - 2 * (m : Int) + 1).toNat = 2 * (j - 1 - m) + 1 := by omega
        have y2 : 0 + (2 * (j : Int) - 2 - 2 * (m : Int)).toNat = 2 * (j - 1 - m) := by omega
        rw [w1, y1, y2, List.append_assoc]; rfl
    · have g := of_decide_eq_false (show decide (2 * (j : Int) - 2 - 2 * (m : Int) ≥ 0) = false from g)
      have hmj : m = j := by omega
      subst hmj
      intro _
      refine ⟨[(1, some 1)], .tup [.grw 1 (orr l).1.length, .int .i64 (orr l).2], ⟨2, 1, [(1, .arr [.int .i64] .grow (.ints (orr l).1))]⟩, rfl, rfl, rfl, rfl, ?_, ?_, ⟨rfl, rfl⟩⟩
      · rw [hor]
        (repeat' first | exact trivial | exact rfl | refine And.intro ?_ ?_)
        exact o2_len l m m
      · rw [hor]
        (repeat' first | exact trivial | exact rfl | refine And.intro ?_ ?_)
theorem orr_len (l : Rows) (hl : List.length l ≤ 300) : (orr l).1.length ≤ 1000 := by
  unfold orr
  split
  · show (o2 l (List.length l / 2) (List.length l / 2)).length ≤ 1000
    rw [o2_len]; omega
  · exact Nat.zero_le _
theorem fr_len (n : Int) : List.length (fr n).1 ≤ 1000 := by
  unfold fr
  split
  · rename_i h
    have := (shs_bd h).1
    show List.length (fcs n (shs n) (shs n)) ≤ 1000
    rw [fcs_len]; omega
  · exact Nat.zero_le _
theorem law9 (n p : Int) (l : Rows) (hL : List.length l ≤ 9223372036854775807) : SemF Try.prog 9 [.int .i64 n, .int .i64 p, .slc 0 4 0 (List.length l)] ⟨1, 1, [(0, .arr [.int .i64, .bool, .int .i64, .int .i64] .ro (.recs l))]⟩ (fun v _ => IsTrue v) := by
  refine enter tt_ok Try.func9 (nt := 95) (cd := body Try.f9) rfl rfl rfl rfl ?_
  have no : ∀ (p : Int) (P : Prop), (p == p) = false → P := fun p P h2 => absurd (show (p == p) = true by simp) (by rw [h2]; simp)
  intro _
  refine head_ok rfl Try.func23 (cd := body Try.f23) rfl ?_
  intro _; refine ⟨fun g => ?_, fun g => ?_⟩
  · intro _
    show true = true
    rfl
  have g := of_decide_eq_false (show decide (((List.length l : Nat) : Int) > 300) = false from g)
  have hl : List.length l ≤ 300 := by omega
  intro _
  refine call_new [] (faces_all n) rfl rfl rfl rfl ?_ ?_ ?_
  · (repeat' first | exact trivial | exact rfl | refine And.intro ?_ ?_)
  · (repeat' first | exact trivial | exact rfl | refine And.intro ?_ ?_)
  intro v h' hv
  obtain ⟨rfl, rfl⟩ := hv
  refine ⟨[(1, some 0)], 2, [(1, .arr [.int .i64, .bool, .int .i64, .int .i64] .grow (.recs (fr n).1))], .tup [.grw 1 (fr n).1.length, .int .i64 (fr n).2], rfl, rfl, rfl, rfl, rfl, ?_, ?_, ?_⟩
  · (repeat' first | exact trivial | exact rfl | refine And.intro ?_ ?_)
  · (repeat' first | exact trivial | exact rfl | refine And.intro ?_ ?_)
  intro _
  refine call_new [] (rfaces_all n) rfl rfl rfl rfl ?_ ?_ ?_
  · (repeat' first | exact trivial | exact rfl | refine And.intro ?_ ?_)
  · (repeat' first | exact trivial | exact rfl | refine And.intro ?_ ?_)
  intro v h' hv
  obtain ⟨rfl, rfl⟩ := hv
  refine ⟨[(2, some 0)], 3, [(2, .arr [.int .i64, .bool, .int .i64, .int .i64] .grow (.recs (fr n).1))], .tup [.grw 2 (fr n).1.length, .int .i64 (fr n).2], rfl, rfl, rfl, rfl, rfl, ?_, ?_, ?_⟩
  · (repeat' first | exact trivial | exact rfl | refine And.intro ?_ ?_)
  · (repeat' first | exact trivial | exact rfl | refine And.intro ?_ ?_)
  intro _
  refine call_pure [(0, some 1), (1, some 2)] (recs_self (fr n).1 (by have := fr_len n; omega)) rfl rfl rfl ?_ ?_ ?_
  · (repeat' first | exact trivial | exact rfl | refine And.intro ?_ ?_)
  · (repeat' first | exact trivial | exact rfl | refine And.intro ?_ ?_)
  intro v hv _
  subst hv
  have nob : ∀ P : Prop, ∀ {b : Bool}, b = false → b = true → P := fun P b h1 h2 => by rw [h1] at h2; cases h2
  have form : (∃ (a c d e : Int) (b y : Bool), WV n p = .tup [.agg [.int .i64 a, .test b, .int .i64 c, .int .i64 d], .test y, .int .i64 e]) ∨ (∃ e : Int, WV n p = .tup [NV, .bool false, .int .i64 e]) := by
    unfold WV; split
    · split
      · exact .inl ⟨_, _, _, _, _, _, rfl⟩
      · exact .inr ⟨_, rfl⟩
    · exact .inr ⟨_, rfl⟩
  rcases form with ⟨a, c, d, e, b, y, hW⟩ | ⟨e, hW⟩
  · intro _
    refine call_pure [] (where_ok n p) rfl rfl rfl ?_ ?_ ?_
    · (repeat' first | exact trivial | exact rfl | refine And.intro ?_ ?_)
    · (repeat' first | exact trivial | exact rfl | refine And.intro ?_ ?_)
    intro v hv _
    rw [hW] at hv
    subst hv
    intro _
    refine call_pure [] (rwhere_ok n p) rfl rfl rfl ?_ ?_ ?_
    · (repeat' first | exact trivial | exact rfl | refine And.intro ?_ ?_)
    · (repeat' first | exact trivial | exact rfl | refine And.intro ?_ ?_)
    intro v hv _
    rw [hW] at hv
    subst hv
    intro _; refine ⟨fun _ => ?_, fun k => no _ _ k⟩
    intro _; refine ⟨fun _ => ?_, fun k => nob _ k (by simp)⟩
    intro _; refine ⟨fun _ => ?_, fun k => nob _ k (by simp)⟩
    intro _
    refine call_new [(0, some 0)] (order_gen l hl) rfl rfl rfl rfl ?_ ?_ ?_
    · (repeat' first | exact trivial | exact rfl | refine And.intro ?_ ?_)
    · (repeat' first | exact trivial | exact rfl | refine And.intro ?_ ?_)
    intro v h' hv
    obtain ⟨rfl, rfl⟩ := hv
    refine ⟨[(5, some 1)], 6, [(5, .arr [.int .i64] .grow (.ints (orr l).1))], .tup [.grw 5 (orr l).1.length, .int .i64 (orr l).2], rfl, rfl, rfl, rfl, rfl, ?_, ?_, ?_⟩
    · (repeat' first | exact trivial | exact rfl | refine And.intro ?_ ?_)
    · (repeat' first | exact trivial | exact rfl | refine And.intro ?_ ?_)
    intro _
    refine call_new [(0, some 0)] (rorder_gen l hl) rfl rfl rfl rfl ?_ ?_ ?_
    · (repeat' first | exact trivial | exact rfl | refine And.intro ?_ ?_)
    · (repeat' first | exact trivial | exact rfl | refine And.intro ?_ ?_)
    intro v h' hv
    obtain ⟨rfl, rfl⟩ := hv
    refine ⟨[(6, some 1)], 7, [(6, .arr [.int .i64] .grow (.ints (orr l).1))], .tup [.grw 6 (orr l).1.length, .int .i64 (orr l).2], rfl, rfl, rfl, rfl, rfl, ?_, ?_, ?_⟩
    · (repeat' first | exact trivial | exact rfl | refine And.intro ?_ ?_)
    · (repeat' first | exact trivial | exact rfl | refine And.intro ?_ ?_)
    intro _; refine ⟨fun _ => ?_, fun k => no _ _ k⟩
    intro _
    refine call_pure [(0, some 5), (1, some 6)] (ints_self (orr l).1 (by have := orr_len l hl; omega)) rfl rfl rfl ?_ ?_ ?_
    · (repeat' first | exact trivial | exact rfl | refine And.intro ?_ ?_)
    · (repeat' first | exact trivial | exact rfl | refine And.intro ?_ ?_)
    intro v hv _
    subst hv
    intro _
    show ((orr l).2 == (orr l).2) = true
    simp

  · intro _
    refine call_pure [] (where_ok n p) rfl rfl rfl ?_ ?_ ?_
    · (repeat' first | exact trivial | exact rfl | refine And.intro ?_ ?_)
    · (repeat' first | exact trivial | exact rfl | refine And.intro ?_ ?_)
    intro v hv _
    rw [hW] at hv
    subst hv
    intro _
    refine call_pure [] (rwhere_ok n p) rfl rfl rfl ?_ ?_ ?_
    · (repeat' first | exact trivial | exact rfl | refine And.intro ?_ ?_)
    · (repeat' first | exact trivial | exact rfl | refine And.intro ?_ ?_)
    intro v hv _
    rw [hW] at hv
    subst hv
    intro _; refine ⟨fun _ => ?_, fun k => no _ _ k⟩
    intro _; refine ⟨fun _ => ?_, fun k => nob _ k (by simp)⟩
    intro _; refine ⟨fun _ => ?_, fun k => nob _ k (by simp)⟩
    intro _
    refine call_new [(0, some 0)] (order_gen l hl) rfl rfl rfl rfl ?_ ?_ ?_
    · (repeat' first | exact trivial | exact rfl | refine And.intro ?_ ?_)
    · (repeat' first | exact trivial | exact rfl | refine And.intro ?_ ?_)
    intro v h' hv
    obtain ⟨rfl, rfl⟩ := hv
    refine ⟨[(5, some 1)], 6, [(5, .arr [.int .i64] .grow (.ints (orr l).1))], .tup [.grw 5 (orr l).1.length, .int .i64 (orr l).2], rfl, rfl, rfl, rfl, rfl, ?_, ?_, ?_⟩
    · (repeat' first | exact trivial | exact rfl | refine And.intro ?_ ?_)
    · (repeat' first | exact trivial | exact rfl | refine And.intro ?_ ?_)
    intro _
    refine call_new [(0, some 0)] (rorder_gen l hl) rfl rfl rfl rfl ?_ ?_ ?_
    · (repeat' first | exact trivial | exact rfl | refine And.intro ?_ ?_)
    · (repeat' first | exact trivial | exact rfl | refine And.intro ?_ ?_)
    intro v h' hv
    obtain ⟨rfl, rfl⟩ := hv
    refine ⟨[(6, some 1)], 7, [(6, .arr [.int .i64] .grow (.ints (orr l).1))], .tup [.grw 6 (orr l).1.length, .int .i64 (orr l).2], rfl, rfl, rfl, rfl, rfl, ?_, ?_, ?_⟩
    · (repeat' first | exact trivial | exact rfl | refine And.intro ?_ ?_)
    · (repeat' first | exact trivial | exact rfl | refine And.intro ?_ ?_)
    intro _; refine ⟨fun _ => ?_, fun k => no _ _ k⟩
    intro _
    refine call_pure [(0, some 5), (1, some 6)] (ints_self (orr l).1 (by have := orr_len l hl; omega)) rfl rfl rfl ?_ ?_ ?_
    · (repeat' first | exact trivial | exact rfl | refine And.intro ?_ ?_)
    · (repeat' first | exact trivial | exact rfl | refine And.intro ?_ ?_)
    intro v hv _
    subst hv
    intro _
    show ((orr l).2 == (orr l).2) = true
    simp


theorem walk (w : World) (n : Int) (w_n : (Lit.int .i64 n).wf = true) (p : Int) (w_p : (Lit.int .i64 p).wf = true) (v_l : Value) (s_l : Src) (l : List (List Go.Vm2.D)) (cap_l : Nat) (hk_l : s_l.ks = [.int .i64, .bool, .int .i64, .int .i64]) (ha_l : s_l.ac = .recs l) (hs_l : s_l.lies w) (hn_l : s_l.at_ = none → l.length = 0) (hc_l : l.length ≤ cap_l) (hv_l : v_l = s_l.val cap_l) (hm_l : l.length ≤ maxLen) (w_l : ∀ n ∈ l, rowWf [.int .i64, .bool, .int .i64, .int .i64] n) :
    Calls Try.prog 9 #[.int .i64 n, .int .i64 p, v_l] w fun e w' => e = .returned (.bool true) ∧ Below w.heap.size w w' := by
  obtain ⟨at_l, ks_l, ac_l⟩ := s_l
  simp only [] at hk_l ha_l
  subst hk_l ha_l
  have h_l : l.length ≤ 9223372036854775807 := by unfold maxLen at hm_l; omega
  have b_n := w_n
  simp [Lit.wf, IntKind.min, IntKind.max, IntKind.signed, IntKind.bits] at b_n
  have b_p := w_p
  simp [Lit.wf, IntKind.min, IntKind.max, IntKind.signed, IntKind.bits] at b_p
  exact top_run (by kernel_rfl) (by kernel_rfl) (T := [23]) (fun f hf w => by
      rcases List.mem_cons.1 hf with e | e
      · subst e; exact head w
      · exact (List.not_mem_nil e).elim) (l := [⟨at_l, [.int .i64, .bool, .int .i64, .int .i64], .recs l⟩]) (args := [.int .i64 n, .int .i64 p, .slc 0 4 0 l.length]) («as» := [.int .i64 n, .int .i64 p, Src.av 0 cap_l ⟨at_l, [.int .i64, .bool, .int .i64, .int .i64], .recs l⟩]) (cargs := [.int .i64 n, .int .i64 p, v_l]) w
    (fun s h => by
      rcases List.mem_cons.1 h with e | h
      · subst e; exact hs_l
      · exact (List.not_mem_nil h).elim)
    (Cvs.cons mk_int (Cvs.cons mk_int (Cvs.cons (src_cv (s := ⟨at_l, [.int .i64, .bool, .int .i64, .int .i64], .recs l⟩) rfl 4 hc_l hn_l) Cvs.nil)))
    (by simp only [Go.Vm.convs, Go.Vm.conv]; rw [src_conv (j := 0) (s := ⟨at_l, [.int .i64, .bool, .int .i64, .int .i64], .recs l⟩) rfl, hv_l])
    (law9 n p l h_l)

set_option maxRecDepth 100000 in
theorem lifted (os : Os) (started : os.Started) (H : Type) (enc : TypeId × Value → H) :
    ReturnsInHanded {} Try.checked os 9 .any (Rows.imposeMatchesReferenceSpec.pre6 enc Try.prog Try.f9 Rows.imposeMatchesReferenceRow.domain false) (Rows.imposeMatchesReferenceSpec.post enc Try.prog Try.f9 false true false false) := by
  refine returnsInHanded_of_change (C := Try.checked) own started (by kernel_rfl) Try.func9
    (ChangeSpec.witness6 (enc := enc) (C := Try.checked) false ⟨#[], #[.int .i64 0, .int .i64 0, .slice none 0 0], []⟩ 8 (by kernel_rfl) (by kernel_rfl) (by kernel_rfl) (by kernel_rfl)) ?_
  intro W base args ds gs before hval0 hW hcnd _
  have hval : ∀ (j : Nat) t v, Try.f9.params[j]? = some t → args[j]? = some v → Value.okWide Try.prog W .any base t v := hval0
  have hW' := hW
  obtain ⟨p, q, hA0, hV, rfl, hfz, hnd⟩ := hW
  have hA : DataW.TrodAll enc Try.prog W 0 (fun _ => true) true Try.f9.params.toList args.toList ds p := hA0
  rw [Try.params9] at hA hval
  obtain ⟨v0, vs0, d0, ds0, p0, q0, hargs, rfl, rfl, h0, r0⟩ := trodAll_cons hA
  obtain ⟨v1, vs1, d1, ds1, p1, q1, rfl, rfl, rfl, h1, r1⟩ := trodAll_cons r0
  obtain ⟨v2, vs2, d2, ds2, p2, q2, rfl, rfl, rfl, h2, r2⟩ := trodAll_cons r1
  obtain ⟨rfl, rfl, rfl⟩ := trodAll_nil r2
  obtain rfl : args = #[v0, v1, v2] := by cases args; simp_all
  obtain ⟨rfl, rfl⟩ := trodVars_none hV
  obtain ⟨n, rfl, rfl, rfl, w_n⟩ := open_int Try.underlying3 (hval 0 3 v0 rfl rfl) h0
  obtain ⟨p, rfl, rfl, rfl, w_p⟩ := open_int Try.underlying3 (hval 1 3 v1 rfl rfl) h1
  obtain ⟨s_l, l, cap_l, hk_l, ha_l, hs_l, hn_l, hc_l, hv_l, hm_l, w_l⟩ := Go.Vm2.open_recs (ks := [.int .i64, .bool, .int .i64, .int .i64]) Try.underlying41 Try.underlying46 (by kernel_rfl) (by simp) (by kernel_rfl) (hval 2 41 v2 rfl rfl) h2
  have hlt2 : ∀ x ∈ p2, x.block < W.heap.size := fun x hx => by simpa using hW'.lt x (by simp [hx])
  clear hA0 hval0
  refine (walk W n w_n p w_p v2 s_l l cap_l hk_l ha_l hs_l hn_l hc_l hv_l hm_l w_l).mono fun e W' ⟨he, hg⟩ => ?_
  subst he
  exact ⟨_, rfl, _, _, _, [], _, [], hW', trodAll_cons_mk (shut_bool Try.underlying4 _) trodAll_mk0, (trodAll_cons_mk (shut_int Try.underlying3 w_n) (trodAll_cons_mk (shut_int Try.underlying3 w_p) (trodAll_cons_mk (Below.trod laidOut (by kernel_rfl) (of_decide_eq_true (by kernel_rfl)) h2 hg hlt2) trodAll_mk0))), rfl, hg.frame _, fun h => by cases h⟩

theorem over : Rows.imposeMatchesReferenceRow.holds Try.pinned (OpenSpec.ofChange Rows.imposeMatchesReferenceSpec) :=
  OpenClaim.holds_of_wide 9 Try.f9 rfl rfl rfl rfl rfl rfl rfl ⟨rfl, rfl, rfl, rfl, rfl⟩ rfl rfl rfl rfl rfl (by kernel_rfl) Try.func9 (by kernel_rfl)
    (of_decide_eq_true (by kernel_rfl)) (by unfold Func.isWrapper; first | (rw [if_pos (by decide +kernel)]; kernel_rfl) | (rw [if_neg (by decide +kernel)]; exact ⟨rfl, rfl⟩))
    (fun os started H enc _ => lifted os started H enc)

/-- the statement -/
theorem proved : Rows.ImposeMatchesReferenceSaid :=
  over
#print axioms proved
end Go.Proofs.Ytkphagflnhnfkaa.imposeMatchesReference
