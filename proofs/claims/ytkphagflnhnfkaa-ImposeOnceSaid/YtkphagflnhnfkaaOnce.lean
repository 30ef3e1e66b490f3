/-
  ImposeOnce: whatever the arguments, the law returns true, and its arguments read as before. No conditions.
-/
import Derived.Test.YtkphagflnhnfkaaRows
import Derived.Test.YtkphagflnhnfkaaVwOpen2
import Derived.Test.YtkphagflnhnfkaaVwRules6
import Derived.Test.YtkphagflnhnfkaaVmSym
import Derived.WalkKit
import Derived.ProofKit
import Derived.OpenShut
import Derived.Carry
namespace Go.Proofs.Ytkphagflnhnfkaa.imposeOnce
open Go.ChangeShapes Go.WideShapes Go.ChangeAt Go.RowKit
open Go.Vm (Facts Val Sound)
open Go.Vm2
set_option linter.unusedVariables false
set_option linter.unusedSectionVars false

theorem own : ownKnob Try.prog.godebug = none := by kernel_rfl
theorem laidOut : laidOutB Try.prog = true := by kernel_rfl
def ts : List Nat := [53, 3, 41, 46, 25, 4, 65, 67, 22, 76]
def tt : Go.Vm2.TT := [
  (53, ⟨(.map .i64 3), false, 1, .nilm, true⟩),
  (3, ⟨(.int .i64), false, 1, .int .i64 (0), true⟩),
  (41, ⟨(.slice 46 4 32 [.int .i64, .bool, .int .i64, .int .i64]), false, 1, .nils, true⟩),
  (46, ⟨(.struct [⟨0, 1, false⟩, ⟨1, 1, false⟩, ⟨2, 1, false⟩, ⟨3, 1, false⟩]), true, 4, .agg [.int .i64 (0), .bool false, .int .i64 (0), .int .i64 (0)], true⟩),
  (25, ⟨(.int .i64), false, 1, .int .i64 (0), true⟩),
  (4, ⟨.bool, false, 1, .bool false, true⟩),
  (65, ⟨(.map .i64 67), false, 1, .nilm, true⟩),
  (67, ⟨(.struct [⟨0, 4, true⟩, ⟨4, 1, false⟩]), true, 5, .agg [.int .i64 (0), .bool false, .int .i64 (0), .int .i64 (0), .bool false], false⟩),
  (22, ⟨(.slice 3 1 8 [.int .i64]), false, 1, .nils, true⟩),
  (76, ⟨.other, false, 1, .nilf, true⟩)]
theorem tt_mk : mkTT Try.prog ts = some tt := by kernel_rfl
theorem head (w : World) : Calls Try.prog 23 #[] w fun e w' => e = .returned (.bool true) ∧ Below w.heap.size w w' :=
  Go.Vm.head_run (by kernel_rfl) (by kernel_rfl) (n := 1000000) (by kernel_rfl) w
instance facts : Facts := ⟨[], [23], false⟩
instance val : Val := ⟨fun _ => 0⟩
instance sound : Sound := ⟨fun f hf => (List.not_mem_nil hf).elim⟩
theorem tt_ok : TTok Try.prog tt := ttok_mk tt_mk
def body (f : Func) : Code := match f.body with | some c => c | none => .skip
set_option maxRecDepth 100000
theorem wrap_nat (k : Nat) (h : k < 9223372036854775807) : IntKind.i64.wrap ((k : Int) + 1) = ((k + 1 : Nat) : Int) := by
  rw [IntKind.wrap_i64]; omega
theorem wrapS (n : Int) (h : -9000000000000000000 ≤ n ∧ n ≤ 9000000000000000000) : IntKind.i64.wrap n = n := by rw [IntKind.wrap_i64]; omega
abbrev Rows := List (List D)
def K4 : List CK := [.int .i64, .bool, .int .i64, .int .i64]
def Cn (n : Int) : Prop := 0 ≤ n ∧ n ≤ 500
instance decCn (n : Int) : Decidable (Cn n) := inferInstanceAs (Decidable (_ ∧ _))
theorem count_test (n : Int) (h : H) (K : V → H → Prop) (hK : K (.test (decide (Cn n))) h) : SemF Try.prog 38 [.int .i64 n] h K := by
  refine SemF.test ?_
  refine enter tt_ok Try.func38 (nt := 9) (cd := body Try.f38) rfl rfl rfl rfl ?_
  intro _; refine ⟨fun g => ?_, fun g => ?_⟩
  · have g := of_decide_eq_true (show decide (n ≥ 0) = true from g)
    intro _
    refine ⟨_, .inr rfl, ?_⟩
    have : decide (Cn n) = decide (n ≤ 500) := by
      by_cases e : n ≤ 500
      · rw [decide_eq_true e, decide_eq_true (show Cn n from ⟨by omega, e⟩)]
      · rw [decide_eq_false e, decide_eq_false (fun m => e m.2)]
    rw [← this]; exact hK
  · have g := of_decide_eq_false (show decide (n ≥ 0) = false from g)
    intro _
    refine ⟨false, .inl rfl, ?_⟩
    have : decide (Cn n) = false := decide_eq_false (fun m => by have := m.1; omega)
    rw [← this]; exact hK
def pg (n p : Int) : Int := if p > n then 0 else p
theorem page_ok (n p : Int) : SemF Try.prog 45 [.int .i64 p, .ptr 0 0] ⟨1, 1, [(0, .cells [.int .i64 n])]⟩ (fun v _ => v = .int .i64 (pg n p) ∧ nameless v = true) := by
  refine enter tt_ok Try.func45 (nt := 8) (cd := body Try.f45) rfl rfl rfl rfl ?_
  intro _; refine ⟨fun g => ?_, fun g => ?_⟩
  · have g := of_decide_eq_true (show decide (p > n) = true from g)
    intro _
    refine ⟨?_, rfl⟩
    unfold pg; rw [if_pos g]
  · have g := of_decide_eq_false (show decide (p > n) = false from g)
    intro _
    refine ⟨?_, rfl⟩
    unfold pg; rw [if_neg g]
def frn (n : Int) (S s : Nat) : List D := [.n s, .b false, .n (pg n (4 * S + 2 - 2 * s)), .n (pg n (2 * s - 1))]
def bck (n : Int) (S s : Nat) : List D := [.n s, .b true, .n (pg n (2 * s)), .n (pg n (4 * S + 1 - 2 * s))]
def fcs (n : Int) (S : Nat) : Nat → Rows
  | 0 => []
  | k + 1 => fcs n S k ++ [frn n S (k + 1)] ++ [bck n S (k + 1)]
theorem fcs_len (n : Int) (S : Nat) : ∀ k, List.length (fcs n S k) = 2 * k
  | 0 => rfl
  | k + 1 => by simp only [fcs, List.length_append, fcs_len n S k, List.length_cons, List.length_nil]; omega
def shs (n : Int) : Nat := ((n + 3).tdiv 4).toNat
def fr (n : Int) : Rows × Int := if Cn n then (fcs n (shs n) (shs n), 0) else ([], 1)
def FQ (n : Int) : V → H → Prop := fun v h' => v = .tup [.grw 0 (fr n).1.length, .int .i64 (fr n).2] ∧ h' = ⟨1, 0, [(0, .arr [.int .i64, .bool, .int .i64, .int .i64] .grow (.recs (fr n).1))]⟩
theorem faces_all (n : Int) : SemF Try.prog 24 [.int .i64 n] ⟨0, 0, []⟩ (FQ n) := by
  refine SemF.ret ?_
  refine enter tt_ok Try.func24 (nt := 17) (cd := body Try.f24) rfl rfl rfl rfl ?_
  intro _
  refine count_test _ _ _ ?_
  intro _; refine ⟨fun g => ?_, fun g => ?_⟩
  · have g : (!decide (Cn n)) = true := g
    rw [Bool.not_eq_true'] at g
    have g := of_decide_eq_false g
    have e : fr n = ([], 1) := by unfold fr; rw [if_neg g]
    intro _
    refine ⟨[(0, none)], .tup [.grw 0 0, .int .i64 1], ⟨1, 0, [(0, .arr [.int .i64, .bool, .int .i64, .int .i64] .grow (.recs []))]⟩, rfl, rfl, rfl, rfl, ?_, ?_, ?_, ?_⟩
    · (repeat' first | exact trivial | exact rfl | refine And.intro ?_ ?_)
    · (repeat' first | exact trivial | exact rfl | refine And.intro ?_ ?_)
    · rw [e]; rfl
    · rw [e]
  have g : (!decide (Cn n)) = false := g
  rw [Bool.not_eq_false'] at g
  have hn := of_decide_eq_true g
  have e : fr n = (fcs n (shs n) (shs n), 0) := by unfold fr; rw [if_pos hn]
  obtain ⟨N, hN⟩ : ∃ N : Nat, n = N := ⟨n.toNat, by have := hn.1; omega⟩
  have hN5 : N ≤ 500 := by have := hn.2; omega
  have eS0 : (n + 3).tdiv 4 = ((N + 3) / 4 : Nat) := by
    subst hN
    exact_mod_cast Int.ofNat_tdiv (N + 3) 4
  have eS : shs n = (N + 3) / 4 := by unfold shs; rw [eS0]; omega
  intro _
  refine enter tt_ok Try.func39 (nt := 10) (cd := body Try.f39) rfl rfl rfl rfl ?_
  intro _; refine ⟨by omega, ?_⟩
  intro _
  intro _
  refine range_ok ?_
  intro _
  refine enter tt_ok Try.func46 (nt := 51) (cd := body Try.f46) rfl rfl rfl rfl ?_
  have eS2 : IntKind.i64.wrap ((IntKind.i64.wrap (n + 3)).tdiv 4) = (shs n : Int) := by
    rw [wrapS (n + 3) ⟨by omega, by omega⟩, eS0, ← eS]
    exact wrapS _ ⟨by omega, by omega⟩
  intro _
  refine loop2 tt_ok [4] [0, 2] 7 (fun k : Fin (shs n + 1) => [(4, .int .i64 ((k : Nat) + 1))]) (fun k => [(0, .cells [.grw 6 (2 * k)]), (2, .cells [.int .i64 (shs n)]), (6, .arr [.int .i64, .bool, .int .i64, .int .i64] .grow (.recs (fcs n (shs n) k)))]) (fun k => shs n - k) ⟨0, by omega⟩ ?_
  intro _
  refine ⟨⟨th [(6, none)] 7, rfl, rfl, rfl, rfl, rfl, rfl, ?_, ?_⟩, ?_⟩
  · (repeat' first | exact trivial | exact rfl | refine And.intro ?_ ?_)
  · (repeat' first | exact trivial | exact rfl | refine And.intro ?_ ?_)
    exact eS2.symm
  intro ⟨k, hk⟩
  intro _; refine ⟨fun g => ?_, fun g => ?_⟩
  · have g := of_decide_eq_true (show decide ((k : Int) + 1 ≤ (shs n : Int)) = true from g)
    have w4 : IntKind.i64.wrap (4 * (shs n : Int)) = 4 * (shs n : Int) := wrapS _ ⟨by omega, by omega⟩
    have w2 : IntKind.i64.wrap (2 * ((k : Int) + 1)) = 2 * ((k : Int) + 1) := wrapS _ ⟨by omega, by omega⟩
    have ec : ((k + 1 : Nat) : Int) = (k : Int) + 1 := rfl
    have eP1 : 4 * (shs n : Int) + 2 - 2 * ((k + 1 : Nat) : Int) = IntKind.i64.wrap (IntKind.i64.wrap (IntKind.i64.wrap (4 * (shs n : Int)) + 2) - IntKind.i64.wrap (2 * ((k : Int) + 1))) := by
      rw [w4, w2, wrapS (4 * (shs n : Int) + 2) ⟨by omega, by omega⟩, wrapS _ ⟨by omega, by omega⟩, ec]
    have eP2 : 2 * ((k + 1 : Nat) : Int) - 1 = IntKind.i64.wrap (IntKind.i64.wrap (2 * ((k : Int) + 1)) - 1) := by
      rw [w2, wrapS _ ⟨by omega, by omega⟩, ec]
    have eP3 : 2 * ((k + 1 : Nat) : Int) = IntKind.i64.wrap (2 * ((k : Int) + 1)) := by rw [w2, ec]
    have eP4 : 4 * (shs n : Int) + 1 - 2 * ((k + 1 : Nat) : Int) = IntKind.i64.wrap (IntKind.i64.wrap (IntKind.i64.wrap (4 * (shs n : Int)) + 1) - IntKind.i64.wrap (2 * ((k : Int) + 1))) := by
      rw [w4, w2, wrapS (4 * (shs n : Int) + 1) ⟨by omega, by omega⟩, wrapS _ ⟨by omega, by omega⟩, ec]
    intro _
    refine Or.inl ?_
    intro _
    refine call_pure [(0, some 1)] (page_ok n (4 * (shs n : Int) + 2 - 2 * ((k + 1 : Nat) : Int))) rfl rfl rfl ?_ ?_ ?_
    · (repeat' first | exact trivial | exact rfl | refine And.intro ?_ ?_)
    · (repeat' first | exact trivial | exact rfl | refine And.intro ?_ ?_)
      exact eP1
    intro v hv _
    subst hv
    intro _
    refine Or.inl ?_
    intro _
    refine call_pure [(0, some 1)] (page_ok n (2 * ((k + 1 : Nat) : Int) - 1)) rfl rfl rfl ?_ ?_ ?_
    · (repeat' first | exact trivial | exact rfl | refine And.intro ?_ ?_)
    · (repeat' first | exact trivial | exact rfl | refine And.intro ?_ ?_)
      exact eP2
    intro v hv _
    subst hv
    intro _
    refine ⟨by kernel_rfl, ?_⟩
    intro _
    refine Or.inl ?_
    intro _
    refine call_pure [(0, some 1)] (page_ok n (2 * ((k + 1 : Nat) : Int))) rfl rfl rfl ?_ ?_ ?_
    · (repeat' first | exact trivial | exact rfl | refine And.intro ?_ ?_)
    · (repeat' first | exact trivial | exact rfl | refine And.intro ?_ ?_)
      exact eP3
    intro v hv _
    subst hv
    intro _
    refine Or.inl ?_
    intro _
    refine call_pure [(0, some 1)] (page_ok n (4 * (shs n : Int) + 1 - 2 * ((k + 1 : Nat) : Int))) rfl rfl rfl ?_ ?_ ?_
    · (repeat' first | exact trivial | exact rfl | refine And.intro ?_ ?_)
    · (repeat' first | exact trivial | exact rfl | refine And.intro ?_ ?_)
      exact eP4
    intro v hv _
    subst hv
    intro _
    refine ⟨by kernel_rfl, ?_⟩
    intro _
    refine yield_ok tt_ok ?_
    intro _; refine ⟨rfl, ?_⟩
    intro _; refine ⟨fun g3 => by simp at g3, fun _ => ?_⟩
    refine ⟨⟨(fcs_len n (shs n) k).symm, by omega, by omega⟩, ?_⟩
    intro _
    intro _
    refine yield_ok tt_ok ?_
    intro _; refine ⟨rfl, ?_⟩
    intro _; refine ⟨fun g3 => by simp at g3, fun _ => ?_⟩
    refine ⟨⟨show 2 * k + 1 = List.length (fcs n (shs n) k ++ [_]) by rw [List.length_append, fcs_len]; rfl, by omega, by omega⟩, ?_⟩
    intro _
    refine ⟨⟨k + 1, by omega⟩, by simp; omega, th [(6, some 14)] 7, rfl, rfl, rfl, rfl, rfl, rfl, ?_, ?_⟩
    · (repeat' first | exact trivial | exact rfl | refine And.intro ?_ ?_)
      show ((k + 1 : Nat) : Int) + 1 = IntKind.i64.wrap ((k : Int) + 1 + 1)
      rw [wrapS _ ⟨by omega, by omega⟩, ec]
    · (repeat' first | exact trivial | exact rfl | refine And.intro ?_ ?_)
  · have g := of_decide_eq_false (show decide ((k : Int) + 1 ≤ (shs n : Int)) = false from g)
    have hkl : k = shs n := by omega
    subst hkl
    intro _
    intro _
    refine ⟨[(0, some 6)], .tup [.grw 0 (fr n).1.length, .int .i64 (fr n).2], ⟨1, 0, [(0, .arr [.int .i64, .bool, .int .i64, .int .i64] .grow (.recs (fr n).1))]⟩, rfl, rfl, rfl, rfl, ?_, ?_, ⟨rfl, rfl⟩⟩
    · rw [e]
      (repeat' first | exact trivial | exact rfl | refine And.intro ?_ ?_)
      exact fcs_len n _ _
    · rw [e]
      (repeat' first | exact trivial | exact rfl | refine And.intro ?_ ?_)
theorem shs_bd {n : Int} (hn : Cn n) : shs n ≤ 125 ∧ n ≤ 4 * shs n ∧ 4 * (shs n : Int) ≤ n + 3 := by
  obtain ⟨N, hN⟩ : ∃ N : Nat, n = N := ⟨n.toNat, by have := hn.1; omega⟩
  have hN5 : N ≤ 500 := by have := hn.2; omega
  have eS0 : (n + 3).tdiv 4 = ((N + 3) / 4 : Nat) := by
    subst hN
    exact_mod_cast Int.ofNat_tdiv (N + 3) 4
  have eS : shs n = (N + 3) / 4 := by unfold shs; rw [eS0]; omega
  omega
def VF (n : Int) : V := .tup [.grw 0 (fr n).1.length, .test (decide (Cn n)), .test true]
def LFQ (n : Int) : V → H → Prop := fun v h' => v = VF n ∧ h' = ⟨1, 0, [(0, .arr [.int .i64, .bool, .int .i64, .int .i64] .grow (.recs (fr n).1))]⟩
theorem lfaces_all (n : Int) : SemF Try.prog 32 [.int .i64 n] ⟨0, 0, []⟩ (LFQ n) := by
  refine SemF.ret ?_
  refine enter tt_ok Try.func32 (nt := 30) (cd := body Try.f32) rfl rfl rfl rfl ?_
  have fin : ¬ Cn n → Ret 0 (LFQ n) (.tup [.nils, .bool false, .bool true]) ⟨0, 0, []⟩ := fun h => by
    have e : fr n = ([], 1) := by unfold fr; rw [if_neg h]
    refine ⟨[(0, none)], .tup [.grw 0 0, .test false, .test true], ⟨1, 0, [(0, .arr [.int .i64, .bool, .int .i64, .int .i64] .grow (.recs []))]⟩, rfl, rfl, rfl, rfl, ?_, ?_, ?_, ?_⟩
    · (repeat' first | exact trivial | exact rfl | refine And.intro ?_ ?_)
    · (repeat' first | exact trivial | exact rfl | refine And.intro ?_ ?_)
    · unfold VF; rw [e, decide_eq_false h]; rfl
    · rw [e]
  intro _; refine ⟨fun g => ?_, fun g => ?_⟩
  · have g := of_decide_eq_true (show decide (n < 0) = true from g)
    intro _
    exact fin (fun h => by have := h.1; omega)
  have g1 := of_decide_eq_false (show decide (n < 0) = false from g)
  intro _; refine ⟨fun g => ?_, fun g => ?_⟩
  · have g := of_decide_eq_true (show decide (n > 500) = true from g)
    intro _
    exact fin (fun h => by have := h.2; omega)
  have g2 := of_decide_eq_false (show decide (n > 500) = false from g)
  have hn : Cn n := ⟨by omega, by omega⟩
  have e : fr n = (fcs n (shs n) (shs n), 0) := by unfold fr; rw [if_pos hn]
  obtain ⟨b1, b2, b3⟩ := shs_bd hn
  intro _
  refine call_new [] (faces_all n) rfl rfl rfl rfl ?_ ?_ ?_
  · (repeat' first | exact trivial | exact rfl | refine And.intro ?_ ?_)
  · (repeat' first | exact trivial | exact rfl | refine And.intro ?_ ?_)
  intro v h' hv
  obtain ⟨rfl, rfl⟩ := hv
  refine ⟨[(0, some 0)], 1, [(0, .arr [.int .i64, .bool, .int .i64, .int .i64] .grow (.recs (fr n).1))], .tup [.grw 0 (fr n).1.length, .int .i64 (fr n).2], rfl, rfl, rfl, rfl, rfl, ?_, ?_, ?_⟩
  · (repeat' first | exact trivial | exact rfl | refine And.intro ?_ ?_)
  · (repeat' first | exact trivial | exact rfl | refine And.intro ?_ ?_)
  intro _; refine ⟨fun g => ?_, fun g => ?_⟩
  · intro _; refine ⟨by omega, ?_⟩
    intro _
    have eW : IntKind.i64.wrap (IntKind.i64.wrap ((IntKind.i64.wrap (n + 3)).tdiv 4) * 2) = ((2 * shs n : Nat) : Int) := by
      have h1 : (n + 3).tdiv 4 = (shs n : Int) := by
        have : 0 ≤ (n + 3).tdiv 4 := Int.tdiv_nonneg (by omega) (by omega)
        unfold shs; omega
      rw [wrapS (n + 3) ⟨by omega, by omega⟩, h1, wrapS (shs n : Int) ⟨by omega, by omega⟩, wrapS _ ⟨by omega, by omega⟩]
      omega
    refine ⟨[(0, some 0)], VF n, ⟨1, 0, [(0, .arr [.int .i64, .bool, .int .i64, .int .i64] .grow (.recs (fr n).1))]⟩, rfl, rfl, rfl, rfl, ?_, ?_, ⟨rfl, rfl⟩⟩
    · (repeat' first | exact trivial | exact rfl | refine And.intro ?_ ?_)
      · exact decide_eq_true hn
      · show true = (((fr n).1.length : Int) == IntKind.i64.wrap (IntKind.i64.wrap ((IntKind.i64.wrap (n + 3)).tdiv 4) * 2))
        rw [eW, e]
        show true = ((List.length (fcs n (shs n) (shs n)) : Int) == ((2 * shs n : Nat) : Int))
        rw [fcs_len]
        simp
    · (repeat' first | exact trivial | exact rfl | refine And.intro ?_ ?_)
  · exfalso
    have g : ((fr n).2 == 0) = false := g
    rw [e] at g
    simp at g
theorem fcs_get (n : Int) (S : Nat) : ∀ k i, i < 2 * k → (fcs n S k).getD i [] = if i % 2 = 0 then frn n S (i / 2 + 1) else bck n S (i / 2 + 1)
  | 0, i, h => by omega
  | k + 1, i, h => by
    rw [List.getD_eq_getElem?_getD]
    simp only [fcs]
    have l1 := fcs_len n S k
    rcases Nat.lt_or_ge i (2 * k) with e | e
    · rw [List.getElem?_append_left (by rw [List.length_append, l1]; omega), List.getElem?_append_left (by omega), ← List.getD_eq_getElem?_getD, fcs_get n S k i e]
    · by_cases e2 : i = 2 * k
      · rw [List.getElem?_append_left (by rw [List.length_append, l1]; simp; omega), List.getElem?_append_right (by omega), e2, l1, if_pos (by omega)]
        have : 2 * k / 2 = k := by omega
        rw [this]; simp
      · have e3 : i = 2 * k + 1 := by omega
        rw [List.getElem?_append_right (by rw [List.length_append, l1]; simp; omega), e3, List.length_append, l1, if_neg (by omega)]
        have : (2 * k + 1) / 2 = k := by omega
        rw [this]; simp
def lfI (n : Int) (S i : Nat) : Int := if i % 2 = 0 then pg n (4 * S + 2 - 2 * ((i / 2 + 1 : Nat) : Int)) else pg n (2 * ((i / 2 + 1 : Nat) : Int))
def rtI (n : Int) (S i : Nat) : Int := if i % 2 = 0 then pg n (2 * ((i / 2 + 1 : Nat) : Int) - 1) else pg n (4 * S + 1 - 2 * ((i / 2 + 1 : Nat) : Int))
section
variable {n : Int} {S i : Nat} (h : i < 2 * S)
include h
theorem g0 : (((fcs n S S).getD i []).getD 0 (D.n 0)).int = ((i / 2 + 1 : Nat) : Int) := by
  rw [fcs_get n S S i h]; split <;> rfl
theorem g1 : (((fcs n S S).getD i []).getD 1 (D.n 0)).bool = decide (i % 2 = 1) := by
  rw [fcs_get n S S i h]
  split
  · rw [decide_eq_false (by omega)]; rfl
  · rw [decide_eq_true (by omega)]; rfl
theorem g2 : (((fcs n S S).getD i []).getD 2 (D.n 0)).int = lfI n S i := by
  rw [fcs_get n S S i h]; unfold lfI; split <;> rfl
theorem g3 : (((fcs n S S).getD i []).getD 3 (D.n 0)).int = rtI n S i := by
  rw [fcs_get n S S i h]; unfold rtI; split <;> rfl
end
theorem pg_cn {n p : Int} (hn : Cn n) (hp : 0 ≤ p) : Cn (pg n p) := by
  unfold pg
  have := hn.2
  split
  · exact ⟨by omega, by omega⟩
  · exact ⟨hp, by omega⟩
theorem lf_cn {n : Int} {S i : Nat} (hn : Cn n) (h : i < 2 * S) : Cn (lfI n S i) := by
  unfold lfI; split <;> exact pg_cn hn (by omega)
theorem rt_cn {n : Int} {S i : Nat} (hn : Cn n) (h : i < 2 * S) : Cn (rtI n S i) := by
  unfold rtI; split <;> exact pg_cn hn (by omega)
/-- the pages in their order -/
def ol (n : Int) (k : Nat) : List Int := (List.range k).map fun (i : Nat) => pg n ((i : Int) + 1)
theorem ol_len (n : Int) (k : Nat) : (ol n k).length = k := by simp [ol]
theorem ol_succ (n : Int) (k : Nat) : ol n (k + 2) = ol n k ++ [pg n ((k : Int) + 1), pg n ((k : Int) + 2)] := by
  have e : (k : Int) + 1 + 1 = (k : Int) + 2 := by omega
  simp [ol, List.range_succ, e]
def OQ (n : Int) (S : Nat) : V → H → Prop := fun v h' => v = .tup [.grw 1 (4 * S), .int .i64 0] ∧ h' = ⟨2, 1, [(1, .arr [.int .i64] .grow (.ints (ol n (4 * S))))]⟩
theorem order_all (n : Int) (hn : Cn n) (S : Nat) (hS : S ≤ 125) : SemF Try.prog 29 [.slc 0 4 0 (2 * S)] ⟨1, 1, [(0, .arr [.int .i64, .bool, .int .i64, .int .i64] .rd (.recs (fcs n S S)))]⟩ (OQ n S) := by
  refine SemF.ret ?_
  refine enter tt_ok Try.func29 (nt := 95) (cd := body Try.f29) rfl rfl rfl rfl ?_
  have hl := fcs_len n S S
  intro _; refine ⟨by omega, ?_⟩
  intro _; refine ⟨fun g => ?_, fun _ => ?_⟩
  · exfalso
    have g : (((2 * S : Nat) : Int).tmod 2 != 0) = true := g
    have e : ((2 * S : Nat) : Int).tmod 2 = 0 := by rw [Int.tmod_eq_emod_of_nonneg (by omega)]; omega
    rw [e] at g; simp at g
  intro _; refine ⟨fun g => ?_, fun _ => ?_⟩
  · exfalso
    have g := of_decide_eq_true (show decide (((2 * S : Nat) : Int) > 250) = true from g)
    omega
  intro _
  refine loop2 tt_ok [21] [] 1 (fun k : Fin (2 * S + 1) => [(21, .int .i64 (k : Nat))]) (fun _ => []) (fun k => 2 * S - k) ⟨0, by omega⟩ ?_
  intro _
  refine ⟨⟨th [] 1, rfl, rfl, rfl, rfl, rfl, rfl, ?_, ?_⟩, ?_⟩
  · (repeat' first | exact trivial | exact rfl | refine And.intro ?_ ?_)
  · (repeat' first | exact trivial | exact rfl | refine And.intro ?_ ?_)
  intro ⟨k, hk⟩
  intro _; refine ⟨fun g => ?_, fun g => ?_⟩
  · have g := of_decide_eq_true (show decide ((k : Int) < ((2 * S : Nat) : Int)) = true from g)
    have hk2 : k < 2 * S := by omega
    have e0 : 0 + ((k : Int)).toNat = k := by omega
    intro _; refine ⟨show 0 ≤ (k : Int) ∧ (k : Int) < ((2 * S : Nat) : Int) by omega, ?_⟩
    intro _; refine ⟨show 0 + (k : Int).toNat < List.length (fcs n S S) by omega, ?_⟩
    intro _; refine ⟨by omega, ?_⟩
    intro _; refine ⟨by omega, ?_⟩
    intro _; refine ⟨fun g => ?_, fun _ => ?_⟩
    · exfalso
      have g : (!((((fcs n S S).getD (0 + (k : Int).toNat) []).getD 0 (D.n 0)).int == IntKind.i64.wrap (IntKind.i64.wrap ((k : Int).tdiv 2) + 1) && ((((fcs n S S).getD (0 + (k : Int).toNat) []).getD 1 (D.n 0)).bool == ((k : Int).tmod 2 == 1) && ((((fcs n S S).getD (0 + (k : Int).toNat) []).getD 2 (D.n 0)).int == (((fcs n S S).getD (0 + (k : Int).toNat) []).getD 2 (D.n 0)).int && (((fcs n S S).getD (0 + (k : Int).toNat) []).getD 3 (D.n 0)).int == (((fcs n S S).getD (0 + (k : Int).toNat) []).getD 3 (D.n 0)).int)))) = true := g
      have e1 : (k : Int).tdiv 2 = ((k / 2 : Nat) : Int) := by exact_mod_cast Int.ofNat_tdiv k 2
      have e2 : (k : Int).tmod 2 = ((k % 2 : Nat) : Int) := by rw [Int.tmod_eq_emod_of_nonneg (by omega)]; omega
      have e3 : (((k % 2 : Nat) : Int) == 1) = decide (k % 2 = 1) := by
        by_cases q : k % 2 = 1
        · rw [q, decide_eq_true rfl]; rfl
        · have : k % 2 = 0 := by omega
          rw [this]; rfl
      rw [e0, g0 hk2, g1 hk2, e1, e2, e3, wrapS ((k / 2 : Nat) : Int) ⟨by omega, by omega⟩, wrapS _ ⟨by omega, by omega⟩] at g
      simp at g
    · intro _
      refine count_test _ _ _ ?_
      intro _; refine ⟨fun g => ?_, fun _ => ?_⟩
      · exfalso
        have g : (!decide (Cn (((fcs n S S).getD (0 + (k : Int).toNat) []).getD 2 (D.n 0)).int)) = true := g
        rw [Bool.not_eq_true', e0, g2 hk2] at g
        exact of_decide_eq_false g (lf_cn hn hk2)
      intro _
      refine count_test _ _ _ ?_
      intro _; refine ⟨fun g => ?_, fun _ => ?_⟩
      · exfalso
        have g : (!decide (Cn (((fcs n S S).getD (0 + (k : Int).toNat) []).getD 3 (D.n 0)).int)) = true := g
        rw [Bool.not_eq_true', e0, g3 hk2] at g
        exact of_decide_eq_false g (rt_cn hn hk2)
      refine ⟨⟨k + 1, by omega⟩, by simp; omega, th [] 1, rfl, rfl, rfl, rfl, rfl, rfl, ?_, ?_⟩
      · (repeat' first | exact trivial | exact rfl | refine And.intro ?_ ?_)
        exact (wrap_nat k (by omega)).symm
      · (repeat' first | exact trivial | exact rfl | refine And.intro ?_ ?_)
  · have g := of_decide_eq_false (show decide ((k : Int) < ((2 * S : Nat) : Int)) = false from g)
    intro _
    refine loop2 tt_ok [7, 8] [1] 2 (fun j : Fin (S + 1) => [(7, .grw 1 (2 * j)), (8, .int .i64 (2 * (j : Nat)))]) (fun j => [(1, .arr [.int .i64] .grow (.ints (ol n (2 * j))))]) (fun j => S - j) ⟨0, by omega⟩ ?_
    intro _
    refine ⟨⟨th [(1, none)] 2, rfl, rfl, rfl, rfl, rfl, rfl, ?_, ?_⟩, ?_⟩
    · (repeat' first | exact trivial | exact rfl | refine And.intro ?_ ?_)
    · (repeat' first | exact trivial | exact rfl | refine And.intro ?_ ?_)
    intro ⟨j, hj⟩
    intro _; refine ⟨fun g => ?_, fun g => ?_⟩
    · have g := of_decide_eq_true (show decide (2 * (j : Int) < ((2 * S : Nat) : Int)) = true from g)
      have hj2 : j < S := by omega
      have w1 : IntKind.i64.wrap (2 * (j : Int) + 1) = 2 * (j : Int) + 1 := wrapS _ ⟨by omega, by omega⟩
      intro _; refine ⟨show 0 ≤ 2 * (j : Int) ∧ 2 * (j : Int) < ((2 * S : Nat) : Int) by omega, ?_⟩
      intro _; refine ⟨show 0 + (2 * (j : Int)).toNat < List.length (fcs n S S) by omega, ?_⟩
      intro _; refine ⟨show 0 ≤ IntKind.i64.wrap (2 * (j : Int) + 1) ∧ IntKind.i64.wrap (2 * (j : Int) + 1) < ((2 * S : Nat) : Int) by rw [w1]; omega, ?_⟩
      intro _; refine ⟨show 0 + (IntKind.i64.wrap (2 * (j : Int) + 1)).toNat < List.length (fcs n S S) by rw [w1]; omega, ?_⟩
      intro _
      refine Or.inr ?_
      intro _; refine ⟨rfl, ?_⟩
      intro _; refine ⟨fun g3 => by simp at g3, fun _ => ?_⟩
      refine ⟨⟨(ol_len n (2 * j)).symm, by omega, by omega⟩, ?_⟩
      intro _
      refine ⟨by kernel_rfl, ?_⟩
      refine ⟨⟨j + 1, by omega⟩, by simp; omega, th [(1, some 3)] 2, rfl, rfl, rfl, rfl, rfl, rfl, ?_, ?_⟩
      · (repeat' first | exact trivial | exact rfl | refine And.intro ?_ ?_)
        show 2 * ((j + 1 : Nat) : Int) = IntKind.i64.wrap (2 * (j : Int) + 2)
        rw [wrapS _ ⟨by omega, by omega⟩]; omega
      · (repeat' first | exact trivial | exact rfl | refine And.intro ?_ ?_)
        show ol n (2 * (j + 1)) = ol n (2 * j) ++ [(((fcs n S S).getD (0 + (2 * (j : Int)).toNat) []).getD 3 (D.n 0)).int, (((fcs n S S).getD (0 + (IntKind.i64.wrap (2 * (j : Int) + 1)).toNat) []).getD 2 (D.n 0)).int]
        have e1 : 0 + (2 * (j : Int)).toNat = 2 * j := by omega
        have e2 : 0 + (2 * (j : Int) + 1).toNat = 2 * j + 1 := by omega
        rw [w1, e1, e2, g3 (by omega), g2 (by omega)]
        have e3 : 2 * (j + 1) = 2 * j + 2 := by omega
        rw [e3, ol_succ]
        unfold rtI lfI
        rw [if_pos (by omega), if_neg (by omega)]
        have e4 : 2 * j / 2 = j := by omega
        have e5 : (2 * j + 1) / 2 = j := by omega
        rw [e4, e5]
        have e6 : 2 * ((j + 1 : Nat) : Int) - 1 = ((2 * j : Nat) : Int) + 1 := by omega
        have e7 : 2 * ((j + 1 : Nat) : Int) = ((2 * j : Nat) : Int) + 2 := by omega
        rw [e6, e7]
    · have g := of_decide_eq_false (show decide (2 * (j : Int) < ((2 * S : Nat) : Int)) = false from g)
      have hjS : j = S := by omega
      subst hjS
      intro _
      refine loop2 tt_ok [7, 9] [1] 2 (fun m : Fin (j + 1) => [(7, .grw 1 (2 * j + 2 * m)), (9, .int .i64 (2 * (j : Int) - 2 - 2 * (m : Nat)))]) (fun m => [(1, .arr [.int .i64] .grow (.ints (ol n (2 * j + 2 * m))))]) (fun m => j - m) ⟨0, by omega⟩ ?_
      intro _
      refine ⟨⟨th [] 2, rfl, rfl, rfl, rfl, rfl, rfl, ?_, ?_⟩, ?_⟩
      · (repeat' first | exact trivial | exact rfl | refine And.intro ?_ ?_)
        show 2 * (j : Int) - 2 - 2 * ((0 : Nat) : Int) = IntKind.i64.wrap (((2 * j : Nat) : Int) - 2)
        rw [wrapS _ ⟨by omega, by omega⟩]; omega
      · (repeat' first | exact trivial | exact rfl | refine And.intro ?_ ?_)
      intro ⟨m, hm⟩
      intro _; refine ⟨fun g => ?_, fun g => ?_⟩
      · have g := of_decide_eq_true (show decide (2 * (j : Int) - 2 - 2 * (m : Int) ≥ 0) = true from g)
        have w1 : IntKind.i64.wrap (2 * (j : Int) - 2 - 2 * (m : Int) + 1) = 2 * (j : Int) - 2 - 2 * (m : Int) + 1 := wrapS _ ⟨by omega, by omega⟩
        intro _; refine ⟨show 0 ≤ IntKind.i64.wrap (2 * (j : Int) - 2 - 2 * (m : Int) + 1) ∧ IntKind.i64.wrap (2 * (j : Int) - 2 - 2 * (m : Int) + 1) < ((2 * j : Nat) : Int) by rw [w1]; omega, ?_⟩
        intro _; refine ⟨show 0 + (IntKind.i64.wrap (2 * (j : Int) - 2 - 2 * (m : Int) + 1)).toNat < List.length (fcs n j j) by rw [w1]; omega, ?_⟩
        intro _; refine ⟨show 0 ≤ 2 * (j : Int) - 2 - 2 * (m : Int) ∧ 2 * (j : Int) - 2 - 2 * (m : Int) < ((2 * j : Nat) : Int) by omega, ?_⟩
        intro _; refine ⟨show 0 + (2 * (j : Int) - 2 - 2 * (m : Int)).toNat < List.length (fcs n j j) by omega, ?_⟩
        intro _
        refine Or.inr ?_
        intro _; refine ⟨rfl, ?_⟩
        intro _; refine ⟨fun g3 => by simp at g3, fun _ => ?_⟩
        refine ⟨⟨(ol_len n (2 * j + 2 * m)).symm, by omega, by omega⟩, ?_⟩
        intro _
        refine ⟨by kernel_rfl, ?_⟩
        refine ⟨⟨m + 1, by omega⟩, by simp; omega, th [(1, some 3)] 2, rfl, rfl, rfl, rfl, rfl, rfl, ?_, ?_⟩
        · (repeat' first | exact trivial | exact rfl | refine And.intro ?_ ?_)
          show 2 * (j : Int) - 2 - 2 * ((m + 1 : Nat) : Int) = IntKind.i64.wrap (2 * (j : Int) - 2 - 2 * (m : Int) - 2)
          rw [wrapS _ ⟨by omega, by omega⟩]; omega
        · (repeat' first | exact trivial | exact rfl | refine And.intro ?_ ?_)
          show ol n (2 * j + 2 * (m + 1)) = ol n (2 * j + 2 * m) ++ [(((fcs n j j).getD (0 + (IntKind.i64.wrap (2 * (j : Int) - 2 - 2 * (m : Int) + 1)).toNat) []).getD 3 (D.n 0)).int, (((fcs n j j).getD (0 + (2 * (j : Int) - 2 - 2 * (m : Int)).toNat) []).getD 2 (D.n 0)).int]
          have e1 : 0 + (2 * (j : Int) - 2 - 2 * (m : Int) + 1).toNat = 2 * (j - 1 - m) + 1 := by omega
          have e2 : 0 + (2 * (j : Int) - 2 - 2 * (m : Int)).toNat = 2 * (j - 1 - m) := by omega
          rw [w1, e1, e2, g3 (by omega), g2 (by omega)]
          have e3 : 2 * j + 2 * (m + 1) = 2 * j + 2 * m + 2 := by omega
          rw [e3, ol_succ]
          unfold rtI lfI
          rw [if_neg (by omega), if_pos (by omega)]
          have e4 : 2 * (j - 1 - m) / 2 = j - 1 - m := by omega
          have e5 : (2 * (j - 1 - m) + 1) / 2 = j - 1 - m := by omega
          rw [e4, e5]
          have e6 : 4 * (j : Int) + 1 - 2 * ((j - 1 - m + 1 : Nat) : Int) = ((2 * j + 2 * m : Nat) : Int) + 1 := by omega
          have e7 : 4 * (j : Int) + 2 - 2 * ((j - 1 - m + 1 : Nat) : Int) = ((2 * j + 2 * m : Nat) : Int) + 2 := by omega
          rw [e6, e7]
      · have g := of_decide_eq_false (show decide (2 * (j : Int) - 2 - 2 * (m : Int) ≥ 0) = false from g)
        have hmj : m = j := by omega
        subst hmj
        intro _
        have e8 : 4 * m = 2 * m + 2 * m := by omega
        refine ⟨[(1, some 1)], .tup [.grw 1 (4 * m), .int .i64 0], ⟨2, 1, [(1, .arr [.int .i64] .grow (.ints (ol n (4 * m))))]⟩, rfl, rfl, rfl, rfl, ?_, ?_, ⟨rfl, rfl⟩⟩
        · (repeat' first | exact trivial | exact rfl | refine And.intro ?_ ?_)
          exact e8
        · rw [e8]
          (repeat' first | exact trivial | exact rfl | refine And.intro ?_ ?_)
theorem mfind_mput (a q : Int) (d : List D) : ∀ l : List (Int × List D), mfind (mput l a d) q = if a = q then some d else mfind l q
  | [] => by simp [mput, mfind]
  | e :: l => by
    simp only [mput]
    by_cases h : e.1 = a
    · rw [if_pos h]
      simp only [mfind]
      by_cases g : a = q
      · simp [g]
      · rw [if_neg g, if_neg g, if_neg (by rw [h]; exact g)]
    · rw [if_neg h]
      simp only [mfind, mfind_mput a q d l]
      by_cases g : e.1 = q
      · rw [if_pos g, if_pos g]
        rw [if_neg (fun k => h (by rw [g, k]))]
      · rw [if_neg g, if_neg g]
abbrev Mp := List (Int × List D)
def two (l : Mp) (r : List D) (a b : Int) : Mp := mput (mput l a (r ++ [.b false])) b (r ++ [.b true])
def wm (n : Int) (S : Nat) : Nat → Mp
  | 0 => []
  | k + 1 => two (two (wm n S k) (frn n S (k + 1)) (pg n (4 * S + 2 - 2 * ((k + 1 : Nat) : Int))) (pg n (2 * ((k + 1 : Nat) : Int) - 1))) (bck n S (k + 1)) (pg n (2 * ((k + 1 : Nat) : Int))) (pg n (4 * S + 1 - 2 * ((k + 1 : Nat) : Int)))
def WR (n : Int) (S : Nat) (p : Int) : List D :=
  if p ≤ 2 * S then (if p % 2 = 1 then frn n S ((p + 1) / 2).toNat ++ [.b true] else bck n S (p / 2).toNat ++ [.b false])
  else (if p % 2 = 0 then frn n S ((4 * S + 2 - p) / 2).toNat ++ [.b false] else bck n S ((4 * S + 1 - p) / 2).toNat ++ [.b true])
theorem find_two (l : Mp) (r : List D) (a b q : Int) : mfind (two l r a b) q = if b = q then some (r ++ [.b true]) else if a = q then some (r ++ [.b false]) else mfind l q := by
  unfold two; rw [mfind_mput, mfind_mput]
theorem pg_eq {n x p : Int} (hp : 1 ≤ p ∧ p ≤ n) : pg n x = p ↔ x = p := by
  unfold pg; split <;> omega
theorem wm_in {n p : Int} {S : Nat} (hp : 1 ≤ p ∧ p ≤ n) (hS : n ≤ 4 * S) : ∀ k, k ≤ S → mfind (wm n S k) p = if p ≤ 2 * k ∨ p > 4 * S - 2 * k then some (WR n S p) else none
  | 0, hk => by rw [if_neg (by omega)]; rfl
  | k + 1, hk => by
    simp only [wm]
    rw [find_two, find_two, wm_in hp hS k (by omega)]
    simp only [pg_eq hp]
    by_cases h1 : 4 * (S : Int) + 1 - 2 * ((k + 1 : Nat) : Int) = p
    · rw [if_pos h1, if_pos (by omega)]
      unfold WR
      rw [if_neg (by omega), if_neg (by omega)]
      have : ((4 * (S : Int) + 1 - p) / 2).toNat = k + 1 := by omega
      rw [this]
    rw [if_neg h1]
    by_cases h2 : 2 * ((k + 1 : Nat) : Int) = p
    · rw [if_pos h2, if_pos (by omega)]
      unfold WR
      rw [if_pos (by omega), if_neg (by omega)]
      have : (p / 2).toNat = k + 1 := by omega
      rw [this]
    rw [if_neg h2]
    by_cases h3 : 2 * ((k + 1 : Nat) : Int) - 1 = p
    · rw [if_pos h3, if_pos (by omega)]
      unfold WR
      rw [if_pos (by omega), if_pos (by omega)]
      have : ((p + 1) / 2).toNat = k + 1 := by omega
      rw [this]
    rw [if_neg h3]
    by_cases h4 : 4 * (S : Int) + 2 - 2 * ((k + 1 : Nat) : Int) = p
    · rw [if_pos h4, if_pos (by omega)]
      unfold WR
      rw [if_neg (by omega), if_pos (by omega)]
      have : ((4 * (S : Int) + 2 - p) / 2).toNat = k + 1 := by omega
      rw [this]
    rw [if_neg h4]
    by_cases h5 : p ≤ 2 * (k : Int) ∨ p > 4 * (S : Int) - 2 * (k : Int)
    · rw [if_pos h5, if_pos (by omega)]
    · rw [if_neg h5, if_neg (by omega)]
theorem pg_no {n x p : Int} (hx : 0 ≤ x) (hn : 0 ≤ n) (hp : p < 0 ∨ p > n) : ¬ pg n x = p := by
  unfold pg; split <;> omega
theorem wm_out {n p : Int} {S : Nat} (hn : 0 ≤ n) (hp : p < 0 ∨ p > n) : ∀ k, k ≤ S → mfind (wm n S k) p = none
  | 0, _ => rfl
  | k + 1, hk => by
    simp only [wm]
    rw [find_two, find_two, wm_out hn hp k (by omega), if_neg (pg_no (by omega) hn hp), if_neg (pg_no (by omega) hn hp), if_neg (pg_no (by omega) hn hp), if_neg (pg_no (by omega) hn hp)]
def FV (d : List D) : V := .agg [.int .i64 (d.getD 0 (.n 0)).int, .test (d.getD 1 (.n 0)).bool, .int .i64 (d.getD 2 (.n 0)).int, .int .i64 (d.getD 3 (.n 0)).int]
def NV : V := .agg [.int .i64 0, .bool false, .int .i64 0, .int .i64 0]
def WV (n p : Int) : V := if Cn n then (if 1 ≤ p ∧ p ≤ n then .tup [FV (WR n (shs n) p), .test ((WR n (shs n) p).getD 4 (.n 0)).bool, .int .i64 0] else .tup [NV, .bool false, .int .i64 4]) else .tup [NV, .bool false, .int .i64 1]
theorem where_ok (n p : Int) : SemF Try.prog 27 [.int .i64 n, .int .i64 p] ⟨0, 0, []⟩ (fun v _ => v = WV n p ∧ nameless v = true) := by
  refine enter tt_ok Try.func27 (nt := 46) (cd := body Try.f27) rfl rfl rfl rfl ?_
  intro _
  refine count_test _ _ _ ?_
  intro _; refine ⟨fun g => ?_, fun g => ?_⟩
  · have g : (!decide (Cn n)) = true := g
    rw [Bool.not_eq_true'] at g
    have g := of_decide_eq_false g
    intro _
    refine ⟨?_, rfl⟩
    unfold WV; rw [if_neg g]; rfl
  have g : (!decide (Cn n)) = false := g
  rw [Bool.not_eq_false'] at g
  have hn := of_decide_eq_true g
  obtain ⟨N, hN⟩ : ∃ N : Nat, n = N := ⟨n.toNat, by have := hn.1; omega⟩
  have hN5 : N ≤ 500 := by have := hn.2; omega
  have eS0 : (n + 3).tdiv 4 = ((N + 3) / 4 : Nat) := by
    subst hN
    exact_mod_cast Int.ofNat_tdiv (N + 3) 4
  have eS : shs n = (N + 3) / 4 := by unfold shs; rw [eS0]; omega
  intro _
  refine enter tt_ok Try.func39 (nt := 10) (cd := body Try.f39) rfl rfl rfl rfl ?_
  intro _; refine ⟨by omega, ?_⟩
  intro _
  intro _
  refine range_ok ?_
  intro _
  refine enter tt_ok Try.func46 (nt := 51) (cd := body Try.f46) rfl rfl rfl rfl ?_
  have eS2 : IntKind.i64.wrap ((IntKind.i64.wrap (n + 3)).tdiv 4) = (shs n : Int) := by
    rw [wrapS (n + 3) ⟨by omega, by omega⟩, eS0, ← eS]
    exact wrapS _ ⟨by omega, by omega⟩
  intro _
  refine loop2 tt_ok [4] [1, 4] 8 (fun k : Fin (shs n + 1) => [(4, .int .i64 ((k : Nat) + 1))]) (fun k => [(1, .map .i64 [.int .i64, .bool, .int .i64, .int .i64, .bool] true (wm n (shs n) k)), (4, .cells [.int .i64 (shs n)])]) (fun k => shs n - k) ⟨0, by omega⟩ ?_
  intro _
  refine ⟨⟨th [] 8, rfl, rfl, rfl, rfl, rfl, rfl, ?_, ?_⟩, ?_⟩
  · (repeat' first | exact trivial | exact rfl | refine And.intro ?_ ?_)
  · (repeat' first | exact trivial | exact rfl | refine And.intro ?_ ?_)
    exact eS2.symm
  intro ⟨k, hk⟩
  intro _; refine ⟨fun g => ?_, fun g => ?_⟩
  · have g := of_decide_eq_true (show decide ((k : Int) + 1 ≤ (shs n : Int)) = true from g)
    have w4 : IntKind.i64.wrap (4 * (shs n : Int)) = 4 * (shs n : Int) := wrapS _ ⟨by omega, by omega⟩
    have w2 : IntKind.i64.wrap (2 * ((k : Int) + 1)) = 2 * ((k : Int) + 1) := wrapS _ ⟨by omega, by omega⟩
    have ec : ((k + 1 : Nat) : Int) = (k : Int) + 1 := rfl
    have eP1 : 4 * (shs n : Int) + 2 - 2 * ((k + 1 : Nat) : Int) = IntKind.i64.wrap (IntKind.i64.wrap (IntKind.i64.wrap (4 * (shs n : Int)) + 2) - IntKind.i64.wrap (2 * ((k : Int) + 1))) := by
      rw [w4, w2, wrapS (4 * (shs n : Int) + 2) ⟨by omega, by omega⟩, wrapS _ ⟨by omega, by omega⟩, ec]
    have eP2 : 2 * ((k + 1 : Nat) : Int) - 1 = IntKind.i64.wrap (IntKind.i64.wrap (2 * ((k : Int) + 1)) - 1) := by
      rw [w2, wrapS _ ⟨by omega, by omega⟩, ec]
    have eP3 : 2 * ((k + 1 : Nat) : Int) = IntKind.i64.wrap (2 * ((k : Int) + 1)) := by rw [w2, ec]
    have eP4 : 4 * (shs n : Int) + 1 - 2 * ((k + 1 : Nat) : Int) = IntKind.i64.wrap (IntKind.i64.wrap (IntKind.i64.wrap (4 * (shs n : Int)) + 1) - IntKind.i64.wrap (2 * ((k : Int) + 1))) := by
      rw [w4, w2, wrapS (4 * (shs n : Int) + 1) ⟨by omega, by omega⟩, wrapS _ ⟨by omega, by omega⟩, ec]
    intro _
    refine Or.inl ?_
    intro _
    refine call_pure [(0, some 3)] (page_ok n (4 * (shs n : Int) + 2 - 2 * ((k + 1 : Nat) : Int))) rfl rfl rfl ?_ ?_ ?_
    · (repeat' first | exact trivial | exact rfl | refine And.intro ?_ ?_)
    · (repeat' first | exact trivial | exact rfl | refine And.intro ?_ ?_)
      exact eP1
    intro v hv _
    subst hv
    intro _
    refine Or.inl ?_
    intro _
    refine call_pure [(0, some 3)] (page_ok n (2 * ((k + 1 : Nat) : Int) - 1)) rfl rfl rfl ?_ ?_ ?_
    · (repeat' first | exact trivial | exact rfl | refine And.intro ?_ ?_)
    · (repeat' first | exact trivial | exact rfl | refine And.intro ?_ ?_)
      exact eP2
    intro v hv _
    subst hv
    intro _
    refine ⟨by kernel_rfl, ?_⟩
    intro _
    refine Or.inl ?_
    intro _
    refine call_pure [(0, some 3)] (page_ok n (2 * ((k + 1 : Nat) : Int))) rfl rfl rfl ?_ ?_ ?_
    · (repeat' first | exact trivial | exact rfl | refine And.intro ?_ ?_)
    · (repeat' first | exact trivial | exact rfl | refine And.intro ?_ ?_)
      exact eP3
    intro v hv _
    subst hv
    intro _
    refine Or.inl ?_
    intro _
    refine call_pure [(0, some 3)] (page_ok n (4 * (shs n : Int) + 1 - 2 * ((k + 1 : Nat) : Int))) rfl rfl rfl ?_ ?_ ?_
    · (repeat' first | exact trivial | exact rfl | refine And.intro ?_ ?_)
    · (repeat' first | exact trivial | exact rfl | refine And.intro ?_ ?_)
      exact eP4
    intro v hv _
    subst hv
    intro _
    refine ⟨by kernel_rfl, ?_⟩
    intro _
    refine yield_ok tt_ok ?_
    intro _
    intro _
    refine yield_ok tt_ok ?_
    intro _
    refine ⟨⟨k + 1, by omega⟩, by simp; omega, th [] 8, rfl, rfl, rfl, rfl, rfl, rfl, ?_, ?_⟩
    · (repeat' first | exact trivial | exact rfl | refine And.intro ?_ ?_)
      show ((k + 1 : Nat) : Int) + 1 = IntKind.i64.wrap ((k : Int) + 1 + 1)
      rw [wrapS _ ⟨by omega, by omega⟩, ec]
    · (repeat' first | exact trivial | exact rfl | refine And.intro ?_ ?_)
  · have g := of_decide_eq_false (show decide ((k : Int) + 1 ≤ (shs n : Int)) = false from g)
    have hkl : k = shs n := by omega
    subst hkl
    intro _
    intro _
    have eN : ¬ (1 ≤ p ∧ p ≤ n) → V.tup [NV, .bool false, .int .i64 4] = WV n p ∧ nameless (V.tup [NV, .bool false, .int .i64 4]) = true := fun h => ⟨by unfold WV; rw [if_pos hn, if_neg h], rfl⟩
    have hS : n ≤ 4 * shs n := by omega
    refine ⟨fun g1 => ?_, fun g1 => ?_⟩
    · have g1 : p = 0 := by simpa using (show (p == 0) = true from g1)
      intro _
      exact eN (by omega)
    have g1 : ¬ p = 0 := by simpa using (show (p == 0) = false from g1)
    intro _
    refine ⟨fun g2 => ?_, fun g2 => ?_⟩
    · have g2 : (!(mfind (wm n (shs n) (shs n)) p).isSome) = true := g2
      intro _
      refine eN (fun h => ?_)
      rw [wm_in h hS (shs n) (Nat.le_refl _), if_pos (by omega)] at g2
      simp at g2
    have g2 : (!(mfind (wm n (shs n) (shs n)) p).isSome) = false := g2
    have hp : 1 ≤ p ∧ p ≤ n := by
      by_cases h : 1 ≤ p ∧ p ≤ n
      · exact h
      · rw [wm_out (S := shs n) hn.1 (by omega) (shs n) (Nat.le_refl _)] at g2
        simp at g2
    have eM : mfind (wm n (shs n) (shs n)) p = some (WR n (shs n) p) := by rw [wm_in hp hS (shs n) (Nat.le_refl _), if_pos (by omega)]
    intro _
    refine ⟨by kernel_rfl, ?_⟩
    intro _
    refine ⟨?_, rfl⟩
    unfold WV; rw [if_pos hn, if_pos hp]
    show V.tup [FV ((mfind (wm n (shs n) (shs n)) p).getD _), .test (((mfind (wm n (shs n) (shs n)) p).getD _).getD 4 (.n 0)).bool, .int .i64 0] = _
    rw [eM]; rfl
def mg (l : Mp) (q : Int) : Int := (((mfind l q).getD [.n 0]).getD 0 (.n 0)).int
def inc (l : Mp) (q : Int) : Mp := mput l q [.n (IntKind.i64.wrap (mg l q + 1))]
def cm (n : Int) (S : Nat) : Nat → Mp
  | 0 => []
  | k + 1 => inc (inc (cm n S k) (lfI n S k)) (rtI n S k)
def hit (a q : Int) : Int := if a = q then 1 else 0
def num (n : Int) (S : Nat) (q : Int) : Nat → Int
  | 0 => 0
  | k + 1 => num n S q k + hit (lfI n S k) q + hit (rtI n S k) q
theorem num_bd (n : Int) (S : Nat) (q : Int) : ∀ k, 0 ≤ num n S q k ∧ num n S q k ≤ 2 * (k : Int)
  | 0 => by simp [num]
  | k + 1 => by
    have := num_bd n S q k
    simp only [num, hit]
    split <;> split <;> omega
theorem mg_inc (l : Mp) (a q : Int) (h : -1000000 ≤ mg l a ∧ mg l a ≤ 1000000) : mg (inc l a) q = mg l q + hit a q := by
  unfold inc hit
  by_cases e : a = q
  · subst e
    rw [if_pos rfl]
    have : mg (mput l a [.n (IntKind.i64.wrap (mg l a + 1))]) a = IntKind.i64.wrap (mg l a + 1) := by
      simp only [mg, mfind_mput, if_true]; rfl
    rw [this, wrapS _ ⟨by omega, by omega⟩]
  · rw [if_neg e]
    simp only [mg, mfind_mput, if_neg e]
    omega
theorem cm_num (n : Int) (S : Nat) : ∀ k, k ≤ 1000 → ∀ q, mg (cm n S k) q = num n S q k
  | 0, _, q => rfl
  | k + 1, hk, q => by
    have ih := cm_num n S k (by omega)
    have b : ∀ q, -1000000 ≤ mg (cm n S k) q ∧ mg (cm n S k) q ≤ 1000000 := fun q => by
      have := num_bd n S q k; rw [ih q]; omega
    have h1 : ∀ q, mg (inc (cm n S k) (lfI n S k)) q = mg (cm n S k) q + hit (lfI n S k) q := fun q => mg_inc _ _ _ (b _)
    have b2 : ∀ q, -1000000 ≤ mg (inc (cm n S k) (lfI n S k)) q ∧ mg (inc (cm n S k) (lfI n S k)) q ≤ 1000000 := fun q => by
      have := num_bd n S q k; rw [h1 q, ih q]; unfold hit; split <;> omega
    simp only [cm, num]
    rw [mg_inc _ _ _ (b2 _), h1, ih q]
theorem lf_e (n : Int) (S k : Nat) : lfI n S (2 * k) = pg n (4 * S - 2 * (k : Int)) := by
  unfold lfI; rw [if_pos (by omega)]; congr 1; omega
theorem rt_e (n : Int) (S k : Nat) : rtI n S (2 * k) = pg n (2 * (k : Int) + 1) := by
  unfold rtI; rw [if_pos (by omega)]; congr 1; omega
theorem lf_o (n : Int) (S k : Nat) : lfI n S (2 * k + 1) = pg n (2 * (k : Int) + 2) := by
  unfold lfI; rw [if_neg (by omega)]; congr 1; omega
theorem rt_o (n : Int) (S k : Nat) : rtI n S (2 * k + 1) = pg n (4 * S - 2 * (k : Int) - 1) := by
  unfold rtI; rw [if_neg (by omega)]; congr 1; omega
theorem num2 (n : Int) (S : Nat) (q : Int) (k : Nat) : num n S q (2 * (k + 1)) = num n S q (2 * k) + hit (pg n (4 * S - 2 * (k : Int))) q + hit (pg n (2 * (k : Int) + 1)) q + hit (pg n (2 * (k : Int) + 2)) q + hit (pg n (4 * S - 2 * (k : Int) - 1)) q := by
  have : 2 * (k + 1) = 2 * k + 1 + 1 := by omega
  rw [this]
  simp only [num]
  rw [lf_e, rt_e, lf_o, rt_o]
theorem num_page {n p : Int} {S : Nat} (hp : 1 ≤ p ∧ p ≤ n) (hS : n ≤ 4 * S) : ∀ k, k ≤ S → num n S p (2 * k) = if p ≤ 2 * (k : Int) ∨ p > 4 * S - 2 * (k : Int) then 1 else 0
  | 0, _ => by rw [if_neg (by omega)]; rfl
  | k + 1, hk => by
    rw [num2, num_page hp hS k (by omega)]
    simp only [hit, pg_eq hp]
    (repeat' split) <;> omega
theorem hit0 (n x : Int) (hx : 1 ≤ x) : hit (pg n x) 0 = if x > n then 1 else 0 := by
  unfold hit pg
  by_cases h : x > n
  · rw [if_pos h, if_pos h, if_pos rfl]
  · rw [if_neg h, if_neg h, if_neg (by omega)]
theorem num_zero {n : Int} {S : Nat} (hn : 0 ≤ n) (hS : n ≤ 4 * S) : ∀ k, k ≤ S → num n S 0 (2 * k) = min (2 * (k : Int)) (4 * S - n) + max 0 (2 * (k : Int) - n)
  | 0, _ => by simp only [num]; omega
  | k + 1, hk => by
    rw [num2, num_zero hn hS k (by omega), hit0 _ _ (by omega), hit0 _ _ (by omega), hit0 _ _ (by omega), hit0 _ _ (by omega)]
    split <;> split <;> split <;> split <;> omega
theorem law10 (n : Int) : SemF Try.prog 10 [.int .i64 n] ⟨0, 0, []⟩ (fun v _ => IsTrue v) := by
  refine enter tt_ok Try.func10 (nt := 74) (cd := body Try.f10) rfl rfl rfl rfl ?_
  intro _
  refine head_ok rfl Try.func23 (cd := body Try.f23) rfl ?_
  intro _
  refine call_new [] (lfaces_all n) rfl rfl rfl rfl ?_ ?_ ?_
  · (repeat' first | exact trivial | exact rfl | refine And.intro ?_ ?_)
  · (repeat' first | exact trivial | exact rfl | refine And.intro ?_ ?_)
  intro v h' hv
  obtain ⟨rfl, rfl⟩ := hv
  refine ⟨[(0, some 0)], 1, [(0, .arr [.int .i64, .bool, .int .i64, .int .i64] .grow (.recs (fr n).1))], VF n, rfl, rfl, rfl, rfl, rfl, ?_, ?_, ?_⟩
  · (repeat' first | exact trivial | exact rfl | refine And.intro ?_ ?_)
  · (repeat' first | exact trivial | exact rfl | refine And.intro ?_ ?_)
  intro _; refine ⟨fun g => ?_, fun g => ?_⟩
  · intro _
    show true = true
    rfl
  have g : (!decide (Cn n)) = false := g
  rw [Bool.not_eq_false'] at g
  have hn := of_decide_eq_true g
  have e : (fr n).1 = fcs n (shs n) (shs n) := by unfold fr; rw [if_pos hn]
  have eL : List.length (fr n).1 = 2 * shs n := by rw [e]; exact fcs_len _ _ _
  obtain ⟨b1, b2, b3⟩ := shs_bd hn
  intro _; refine ⟨fun g => by simp at g, fun _ => ?_⟩
  intro _
  refine loop2 tt_ok [31] [1] 2 (fun k : Fin (2 * shs n + 1) => [(31, .int .i64 (k : Nat))]) (fun k => [(1, .map .i64 [.int .i64] false (cm n (shs n) (k : Nat)))]) (fun k => 2 * shs n - k) ⟨0, by omega⟩ ?_
  intro _
  refine ⟨⟨th [] 2, rfl, rfl, rfl, rfl, rfl, rfl, ?_, ?_⟩, ?_⟩
  · (repeat' first | exact trivial | exact rfl | refine And.intro ?_ ?_)
  · (repeat' first | exact trivial | exact rfl | refine And.intro ?_ ?_)
  intro ⟨k, hk⟩
  intro _; refine ⟨fun g => ?_, fun g => ?_⟩
  · have g := of_decide_eq_true (show decide ((k : Int) < ((fr n).1.length : Int)) = true from g)
    have hk2 : k < 2 * shs n := by omega
    have e3 : (k : Int).toNat = k := by omega
    have q2 : (((fr n).1.getD (k : Int).toNat []).getD 2 (D.n 0)).int = lfI n (shs n) k := by rw [e3, e]; exact g2 hk2
    have q3 : (((fr n).1.getD (k : Int).toNat []).getD 3 (D.n 0)).int = rtI n (shs n) k := by rw [e3, e]; exact g3 hk2
    intro _; refine ⟨show 0 ≤ (k : Int) ∧ (k : Int) < ((fr n).1.length : Int) by omega, ?_⟩
    intro _; refine ⟨show (k : Int).toNat < (fr n).1.length by omega, ?_⟩
    refine ⟨⟨k + 1, by omega⟩, by simp; omega, th [] 2, rfl, rfl, rfl, rfl, rfl, rfl, ?_, ?_⟩
    · (repeat' first | exact trivial | exact rfl | refine And.intro ?_ ?_)
      exact (wrap_nat k (by omega)).symm
    · (repeat' first | exact trivial | exact rfl | refine And.intro ?_ ?_)
      show cm n (shs n) (k + 1) = inc (inc (cm n (shs n) k) ((((fr n).1.getD (k : Int).toNat []).getD 2 (D.n 0)).int)) ((((fr n).1.getD (k : Int).toNat []).getD 3 (D.n 0)).int)
      rw [q2, q3]; rfl
  · have g := of_decide_eq_false (show decide ((k : Int) < ((fr n).1.length : Int)) = false from g)
    have hkl : k = 2 * shs n := by omega
    subst hkl
    obtain ⟨N, hN⟩ : ∃ N : Nat, n = N := ⟨n.toNat, by have := hn.1; omega⟩
    have hN5 : N ≤ 500 := by have := hn.2; omega
    have one : ∀ p : Int, 1 ≤ p ∧ p ≤ n → mg (cm n (shs n) (2 * shs n)) p = 1 := fun p hp => by
      rw [cm_num n (shs n) _ (by omega), num_page hp (by omega) _ (Nat.le_refl _), if_pos (by omega)]
    have zero : mg (cm n (shs n) (2 * shs n)) 0 = 4 * (shs n : Int) - n := by
      rw [cm_num n (shs n) _ (by omega), num_zero hn.1 (by omega) _ (Nat.le_refl _)]; omega
    intro _
    refine loop2 tt_ok [3, 10] [] 2 (fun k : Fin (N + 1) => [(3, .bool true), (10, .int .i64 ((k : Nat) + 1))]) (fun _ => []) (fun k => N - k) ⟨0, by omega⟩ ?_
    intro _
    refine ⟨⟨th [] 2, rfl, rfl, rfl, rfl, rfl, rfl, ?_, ?_⟩, ?_⟩
    · (repeat' first | exact trivial | exact rfl | refine And.intro ?_ ?_)
    · (repeat' first | exact trivial | exact rfl | refine And.intro ?_ ?_)
    intro ⟨j, hj⟩
    intro _; refine ⟨fun g => ?_, fun g => ?_⟩
    · have g := of_decide_eq_true (show decide ((j : Int) + 1 ≤ n) = true from g)
      refine ⟨⟨j + 1, by omega⟩, by simp; omega, th [] 2, rfl, rfl, rfl, rfl, rfl, rfl, ?_, ?_⟩
      · (repeat' first | exact trivial | exact rfl | refine And.intro ?_ ?_)
        · show true = (mg (cm n (shs n) (2 * shs n)) ((j : Int) + 1) == 1)
          rw [one _ ⟨by omega, by omega⟩]; rfl
        · show ((j + 1 : Nat) : Int) + 1 = IntKind.i64.wrap ((j : Int) + 1 + 1)
          rw [wrapS _ ⟨by omega, by omega⟩]; omega
      · (repeat' first | exact trivial | exact rfl | refine And.intro ?_ ?_)
    · intro _; refine ⟨fun _ => ?_, fun k => ?_⟩
      rotate_left
      · exfalso
        have k := of_decide_eq_false (show decide (mg (cm n (shs n) (2 * shs n)) 0 ≤ 3) = false from k)
        rw [zero] at k; omega
      intro _
      show (IntKind.i64.wrap (mg (cm n (shs n) (2 * shs n)) 0 + n) == IntKind.i64.wrap (2 * ((fr n).1.length : Int))) = true
      rw [zero, eL, wrapS _ ⟨by omega, by omega⟩, wrapS _ ⟨by omega, by omega⟩]
      have : 4 * (shs n : Int) - n + n = 2 * ((2 * shs n : Nat) : Int) := by omega
      rw [this]; simp

theorem walk (w : World) (n : Int) (w_n : (Lit.int .i64 n).wf = true) :
    Calls Try.prog 10 #[.int .i64 n] w fun e w' => e = .returned (.bool true) ∧ Below w.heap.size w w' := by
  have b_n := w_n
  simp [Lit.wf, IntKind.min, IntKind.max, IntKind.signed, IntKind.bits] at b_n
  exact top_run (by kernel_rfl) (by kernel_rfl) (T := [23]) (fun f hf w => by
      rcases List.mem_cons.1 hf with e | e
      · subst e; exact head w
      · exact (List.not_mem_nil e).elim) (l := []) (args := [.int .i64 n]) («as» := [.int .i64 n]) (cargs := [.int .i64 n]) w
    (fun s h => by
      exact (List.not_mem_nil h).elim)
    (Cvs.cons mk_int Cvs.nil)
    (by simp only [Go.Vm.convs, Go.Vm.conv]; rw [])
    (law10 n)

set_option maxRecDepth 100000 in
theorem lifted (os : Os) (started : os.Started) (H : Type) (enc : TypeId × Value → H) :
    ReturnsInHanded {} Try.checked os 10 .any (Rows.imposeOnceSpec.pre6 enc Try.prog Try.f10 Rows.imposeOnceRow.domain false) (Rows.imposeOnceSpec.post enc Try.prog Try.f10 false true false false) := by
  refine returnsInHanded_of_change (C := Try.checked) own started (by kernel_rfl) Try.func10
    (ChangeSpec.witness6 (enc := enc) (C := Try.checked) false ⟨#[], #[.int .i64 0], []⟩ 8 (by kernel_rfl) (by kernel_rfl) (by kernel_rfl) (by kernel_rfl)) ?_
  intro W base args ds gs before hval0 hW hcnd _
  have hval : ∀ (j : Nat) t v, Try.f10.params[j]? = some t → args[j]? = some v → Value.okWide Try.prog W .any base t v := hval0
  have hW' := hW
  obtain ⟨p, q, hA0, hV, rfl, hfz, hnd⟩ := hW
  have hA : DataW.TrodAll enc Try.prog W 0 (fun _ => true) true Try.f10.params.toList args.toList ds p := hA0
  rw [Try.params10] at hA hval
  obtain ⟨v0, vs0, d0, ds0, p0, q0, hargs, rfl, rfl, h0, r0⟩ := trodAll_cons hA
  obtain ⟨rfl, rfl, rfl⟩ := trodAll_nil r0
  obtain rfl : args = #[v0] := by cases args; simp_all
  obtain ⟨rfl, rfl⟩ := trodVars_none hV
  obtain ⟨n, rfl, rfl, rfl, w_n⟩ := open_int Try.underlying3 (hval 0 3 v0 rfl rfl) h0
  clear hA0 hval0
  refine (walk W n w_n).mono fun e W' ⟨he, hg⟩ => ?_
  subst he
  exact ⟨_, rfl, _, _, _, [], _, [], hW', trodAll_cons_mk (shut_bool Try.underlying4 _) trodAll_mk0, (trodAll_cons_mk (shut_int Try.underlying3 w_n) trodAll_mk0), rfl, hg.frame _, fun h => by cases h⟩

theorem over : Rows.imposeOnceRow.holds Try.pinned (OpenSpec.ofChange Rows.imposeOnceSpec) :=
  OpenClaim.holds_of_wide 10 Try.f10 rfl rfl rfl rfl rfl rfl rfl ⟨rfl, rfl, rfl, rfl, rfl⟩ rfl rfl rfl rfl rfl (by kernel_rfl) Try.func10 (by kernel_rfl)
    (of_decide_eq_true (by kernel_rfl)) (by unfold Func.isWrapper; first | (rw [if_pos (by decide +kernel)]; kernel_rfl) | (rw [if_neg (by decide +kernel)]; exact ⟨rfl, rfl⟩))
    (fun os started H enc _ => lifted os started H enc)

/-- the statement -/
theorem proved : Rows.ImposeOnceSaid :=
  over
#print axioms proved
end Go.Proofs.Ytkphagflnhnfkaa.imposeOnce
