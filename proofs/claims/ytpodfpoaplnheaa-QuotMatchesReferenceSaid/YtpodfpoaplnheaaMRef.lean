/-
  QuotMatchesReference: whatever the arguments, the law returns true, and its arguments read as before. No conditions.
-/
import Derived.Test.YtpodfpoaplnheaaRows
import Derived.Test.YtpodfpoaplnheaaVwOpen2
import Derived.Test.YtpodfpoaplnheaaVwRules7
import Derived.Test.YtpodfpoaplnheaaVmFast3
import Derived.WalkKit
import Derived.ProofKit
import Derived.OpenShut
import Derived.Carry
import Derived.Test.YtpodfpoaplnheaaHead
import Derived.Test.YtpodfpoaplnheaaSrtA
import Derived.Test.YtpodfpoaplnheaaSrtB
import Derived.Test.YtpodfpoaplnheaaSrtC
namespace Go.Proofs.Ytpodfpoaplnheaa.quotMatchesReference
open Go.ChangeShapes Go.WideShapes Go.ChangeAt Go.RowKit
open Go.Vm (Facts Val Sound)
open Go.Vm2
set_option linter.unusedVariables false
set_option linter.unusedSectionVars false

open Go.Proofs.Ytpodfpoaplnheaa.srt
theorem own : ownKnob Try.prog.godebug = none := by kernel_rfl
theorem laidOut : laidOutB Try.prog = true := by kernel_rfl
set_option maxRecDepth 100000
theorem rat_ok (a b d n : Int) : SemF Try.prog 9 [.agg (QA a b d), .int .i64 n] ⟨0, 0, []⟩ (fun v _ => v = atv a b d n ∧ nameless v = true) := by
  refine enter tt_ok Try.func9 (nt := 19) (cd := body Try.f9) rfl rfl rfl rfl ?_
  intro _
  refine call_pure [] (rvalid_ok a b d) rfl rfl rfl ?_ ?_ ?_
  · (repeat' first | exact trivial | exact rfl | refine And.intro ?_ ?_)
  · (repeat' first | exact trivial | exact rfl | refine And.intro ?_ ?_)
  intro v hv _
  subst hv
  intro _; refine ⟨fun g => ?_, fun g => ?_⟩
  · have g : (!decide (Qv a b d)) = true := g
    rw [Bool.not_eq_true'] at g
    have g := of_decide_eq_false g
    intro _
    refine ⟨?_, rfl⟩
    unfold atv; rw [if_neg (fun h => g h.1)]
  have g : (!decide (Qv a b d)) = false := g
  rw [Bool.not_eq_false'] at g
  have h := of_decide_eq_true g
  intro _
  refine rplace_test _ _ _ ?_
  intro _; refine ⟨fun g => ?_, fun g => ?_⟩
  · have g : (!decide (Pl n)) = true := g
    rw [Bool.not_eq_true'] at g
    have g := of_decide_eq_false g
    intro _
    refine ⟨?_, rfl⟩
    unfold atv; rw [if_neg (fun h => g h.2)]
  have g : (!decide (Pl n)) = false := g
  rw [Bool.not_eq_false'] at g
  have hp := of_decide_eq_true g
  have hn : 0 ≤ n ∧ n ≤ 4001 := ⟨hp.1, by have := hp.2; omega⟩
  intro _
  refine call_pure [] (value_ok a b d n h hn) rfl rfl rfl ?_ ?_ ?_
  · (repeat' first | exact trivial | exact rfl | refine And.intro ?_ ?_)
  · (repeat' first | exact trivial | exact rfl | refine And.intro ?_ ?_)
  intro v hv _
  subst hv
  intro _
  refine ⟨?_, rfl⟩
  unfold atv; rw [if_pos ⟨h, hp⟩]
theorem radd_ok (a b d by_ : Int) : SemF Try.prog 13 [.agg (QA a b d), .int .i64 by_] ⟨0, 0, []⟩ (fun v _ => v = addv a b d by_ ∧ nameless v = true) := by
  refine enter tt_ok Try.func13 (nt := 35) (cd := body Try.f13) rfl rfl rfl rfl ?_
  intro _
  refine call_pure [] (rvalid_ok a b d) rfl rfl rfl ?_ ?_ ?_
  · (repeat' first | exact trivial | exact rfl | refine And.intro ?_ ?_)
  · (repeat' first | exact trivial | exact rfl | refine And.intro ?_ ?_)
  intro v hv _
  subst hv
  intro _; refine ⟨fun g => ?_, fun g => ?_⟩
  · have g : (!decide (Qv a b d)) = true := g
    rw [Bool.not_eq_true'] at g
    have g := of_decide_eq_false g
    intro _
    exact ⟨by unfold addv; rw [if_neg (fun h => g h.1)], rfl⟩
  have g : (!decide (Qv a b d)) = false := g
  rw [Bool.not_eq_false'] at g
  have hq := of_decide_eq_true g
  intro _
  refine rcoord_test _ _ _ ?_
  intro _; refine ⟨fun g => ?_, fun g => ?_⟩
  · have g : (!decide (Cd by_)) = true := g
    rw [Bool.not_eq_true'] at g
    have g := of_decide_eq_false g
    intro _
    exact ⟨by unfold addv; rw [if_neg (fun h => g h.2)], rfl⟩
  have g : (!decide (Cd by_)) = false := g
  rw [Bool.not_eq_false'] at g
  have hb := of_decide_eq_true g
  have b1 := hb.1; have b2 := hb.2
  have d1 := hq.1.1; have d2 := hq.1.2
  have c1 := hq.2.2.1; have c2 := hq.2.2.2
  have m1 : (-1000000000) * d ≤ by_ * d := Int.mul_le_mul_of_nonneg_right b1 (by omega)
  have m2 : by_ * d ≤ 1000000000 * d := Int.mul_le_mul_of_nonneg_right b2 (by omega)
  have ew : IntKind.i64.wrap (b + IntKind.i64.wrap (by_ * d)) = b + by_ * d := by rw [wrapS (by_ * d) ⟨by omega, by omega⟩, wrapS _ ⟨by omega, by omega⟩]
  intro _
  refine rcoord_test _ _ _ ?_
  intro _; refine ⟨fun g => ?_, fun g => ?_⟩
  · have g : (!decide (Cd (IntKind.i64.wrap (b + IntKind.i64.wrap (by_ * d))))) = true := g
    rw [Bool.not_eq_true', ew] at g
    have g := of_decide_eq_false g
    intro _
    exact ⟨by unfold addv; rw [if_pos ⟨hq, hb⟩, if_neg g], rfl⟩
  have g : (!decide (Cd (IntKind.i64.wrap (b + IntKind.i64.wrap (by_ * d))))) = false := g
  rw [Bool.not_eq_false', ew] at g
  have g := of_decide_eq_true g
  intro _
  refine ⟨?_, rfl⟩
  unfold addv; rw [if_pos ⟨hq, hb⟩, if_pos g]
  show V.tup [QV a (IntKind.i64.wrap (b + IntKind.i64.wrap (by_ * d))) d, .int .i64 0] = _
  rw [ew]
def BelR (a b d a' b' d' last : Int) (v : V) : Prop :=
  if Qv a b d ∧ Qv a' b' d' ∧ Pl last then
    (∃ n : Int, 0 ≤ n ∧ n ≤ last ∧ qv a b d n < qv a' b' d' n ∧ (∀ k : Int, 0 ≤ k → k < n → ¬ qv a b d k < qv a' b' d' k) ∧ v = .tup [.int .i64 n, .bool true, .int .i64 0]) ∨ ((∀ k : Int, 0 ≤ k → k ≤ last → ¬ qv a b d k < qv a' b' d' k) ∧ v = .tup [.int .i64 0, .bool false, .int .i64 0])
  else v = .tup [.int .i64 0, .bool false, .int .i64 1]
theorem BelR.uniq {a b d a' b' d' last : Int} {v w : V} (h : BelR a b d a' b' d' last v) (k : BelR a b d a' b' d' last w) : v = w := by
  unfold BelR at h k
  split at h
  · rename_i c
    rw [if_pos c] at k
    rcases h with ⟨n, n1, n2, n3, n4, rfl⟩ | ⟨h, rfl⟩
    · rcases k with ⟨m, m1, m2, m3, m4, rfl⟩ | ⟨k, rfl⟩
      · have : n = m := by
          rcases Int.lt_trichotomy n m with q | q | q
          · exact absurd n3 (m4 n n1 q)
          · exact q
          · exact absurd m3 (n4 m m1 q)
        rw [this]
      · exact absurd n3 (k n n1 n2)
    · rcases k with ⟨m, m1, m2, m3, m4, rfl⟩ | ⟨k, rfl⟩
      · exact absurd m3 (h m m1 m2)
      · rfl
  · rename_i c
    rw [if_neg c] at k
    rw [h, k]
theorem BelR.form {a b d a' b' d' last : Int} {v : V} (h : BelR a b d a' b' d' last v) : ∃ n f e, v = .tup [.int .i64 n, .bool f, .int .i64 e] := by
  unfold BelR at h
  split at h
  · rcases h with ⟨n, _, _, _, _, rfl⟩ | ⟨_, rfl⟩
    · exact ⟨_, _, _, rfl⟩
    · exact ⟨_, _, _, rfl⟩
  · exact ⟨_, _, _, h⟩
theorem belowG_ok (a b d a' b' d' last : Int) : SemF Try.prog 16 [.agg (QA a b d), .agg (QA a' b' d'), .int .i64 last] ⟨0, 0, []⟩ (fun v _ => BelR a b d a' b' d' last v ∧ nameless v = true) := by
  have no : ¬ (Qv a b d ∧ Qv a' b' d' ∧ Pl last) → BelR a b d a' b' d' last (.tup [.int .i64 0, .bool false, .int .i64 1]) ∧ nameless (.tup [.int .i64 0, .bool false, .int .i64 1]) = true := fun h => ⟨by unfold BelR; rw [if_neg h], rfl⟩
  refine enter tt_ok Try.func16 (nt := 51) (cd := body Try.f16) rfl rfl rfl rfl ?_
  intro _
  refine call_pure [] (valid_ok a b d) rfl rfl rfl ?_ ?_ ?_
  · (repeat' first | exact trivial | exact rfl | refine And.intro ?_ ?_)
  · (repeat' first | exact trivial | exact rfl | refine And.intro ?_ ?_)
  intro v hv _
  subst hv
  intro _; refine ⟨fun g => ?_, fun g => ?_⟩
  · have g : (!decide (Qv a b d)) = true := g
    rw [Bool.not_eq_true'] at g
    have g := of_decide_eq_false g
    intro _
    exact no (fun h => g h.1)
  have g : (!decide (Qv a b d)) = false := g
  rw [Bool.not_eq_false'] at g
  have h := of_decide_eq_true g
  intro _
  refine call_pure [] (valid_ok a' b' d') rfl rfl rfl ?_ ?_ ?_
  · (repeat' first | exact trivial | exact rfl | refine And.intro ?_ ?_)
  · (repeat' first | exact trivial | exact rfl | refine And.intro ?_ ?_)
  intro v hv _
  subst hv
  intro _; refine ⟨fun g => ?_, fun g => ?_⟩
  · have g : (!decide (Qv a' b' d')) = true := g
    rw [Bool.not_eq_true'] at g
    have g := of_decide_eq_false g
    intro _
    exact no (fun h => g h.2.1)
  have g : (!decide (Qv a' b' d')) = false := g
  rw [Bool.not_eq_false'] at g
  have h' := of_decide_eq_true g
  intro _
  refine place_test _ _ _ ?_
  intro _; refine ⟨fun g => ?_, fun g => ?_⟩
  · have g : (!decide (Pl last)) = true := g
    rw [Bool.not_eq_true'] at g
    have g := of_decide_eq_false g
    intro _
    exact no (fun h => g h.2.2)
  have g : (!decide (Pl last)) = false := g
  rw [Bool.not_eq_false'] at g
  have hl := of_decide_eq_true g
  have el : IntKind.i64.wrap (last + 1) = last + 1 := wrapS _ (by have := hl.1; have := hl.2; constructor <;> omega)
  intro _
  refine loop2 tt_ok [25] [] 2 (fun k : { k : Nat // (k : Int) ≤ last + 1 ∧ ∀ i : Int, 0 ≤ i → i < k → ¬ qv a b d i < qv a' b' d' i } => [(25, .int .i64 (k : Nat))]) (fun _ => []) (fun k => (last + 1 - k).toNat) ⟨0, by have := hl.1; omega, fun i h1 h2 => by omega⟩ ?_
  intro _
  refine ⟨⟨th [] 2, rfl, rfl, rfl, rfl, rfl, rfl, ?_, ?_⟩, ?_⟩
  · (repeat' first | exact trivial | exact rfl | refine And.intro ?_ ?_)
  · (repeat' first | exact trivial | exact rfl | refine And.intro ?_ ?_)
  intro ⟨k, hk, hmk⟩
  have := hl.1; have := hl.2
  intro _; refine ⟨fun g => ?_, fun g => ?_⟩
  rotate_left
  · have g := of_decide_eq_false (show decide ((k : Int) < IntKind.i64.wrap (last + 1)) = false from g)
    rw [el] at g
    intro _
    exact ⟨by unfold BelR; rw [if_pos ⟨h, h', hl⟩]; exact .inr ⟨fun i h1 h2 => hmk i h1 (by omega), rfl⟩, rfl⟩
  have g := of_decide_eq_true (show decide ((k : Int) < IntKind.i64.wrap (last + 1)) = true from g)
  rw [el] at g
  have hn : 0 ≤ (k : Int) ∧ (k : Int) ≤ 4001 := by omega
  have tb := top_bd h.2.1 h.2.2 hn
  have tb' := top_bd h'.2.1 h'.2.2 hn
  have tw := top_wrap h.2.1 h.2.2 hn
  have tw' := top_wrap h'.2.1 h'.2.2 hn
  have ek : IntKind.i64.wrap ((k : Int) + 1) = ((k + 1 : Nat) : Int) := wrap_nat k (by omega)
  intro _
  refine Or.inl ?_
  intro _
  refine call_pure [] (floor_ok (a * k + b) d h.1.1 ⟨by omega, by omega⟩) rfl rfl rfl ?_ ?_ ?_
  · (repeat' first | exact trivial | exact rfl | refine And.intro ?_ ?_)
  · (repeat' first | exact trivial | exact rfl | refine And.intro ?_ ?_)
    exact tw.symm
  intro v hv _
  subst hv
  intro _
  refine Or.inl ?_
  intro _
  refine call_pure [] (floor_ok (a' * k + b') d' h'.1.1 ⟨by omega, by omega⟩) rfl rfl rfl ?_ ?_ ?_
  · (repeat' first | exact trivial | exact rfl | refine And.intro ?_ ?_)
  · (repeat' first | exact trivial | exact rfl | refine And.intro ?_ ?_)
    exact tw'.symm
  intro v hv _
  subst hv
  intro _; refine ⟨by kernel_rfl, ?_⟩
  intro _; refine ⟨fun g => ?_, fun g => ?_⟩
  · have g2 := of_decide_eq_true (show decide (qv a b d k < qv a' b' d' k) = true from g)
    intro _
    exact ⟨by unfold BelR; rw [if_pos ⟨h, h', hl⟩]; exact .inl ⟨k, by omega, by omega, g2, hmk, rfl⟩, rfl⟩
  have g2 := of_decide_eq_false (show decide (qv a b d k < qv a' b' d' k) = false from g)
  refine ⟨⟨k + 1, by omega, fun i h1 h2 => ?_⟩, by show (last + 1 - ((k + 1 : Nat) : Int)).toNat < (last + 1 - (k : Int)).toNat; omega, th [] 2, rfl, rfl, rfl, rfl, rfl, rfl, ?_, ?_⟩
  · by_cases e : i = k
    · subst e; exact g2
    · exact hmk i h1 (by omega)
  · (repeat' first | exact trivial | exact rfl | refine And.intro ?_ ?_)
    exact ek.symm
  · (repeat' first | exact trivial | exact rfl | refine And.intro ?_ ?_)
theorem rbelow_ok (a b d a' b' d' last : Int) : SemF Try.prog 17 [.agg (QA a b d), .agg (QA a' b' d'), .int .i64 last] ⟨0, 0, []⟩ (fun v _ => BelR a b d a' b' d' last v ∧ nameless v = true) := by
  have no : ¬ (Qv a b d ∧ Qv a' b' d' ∧ Pl last) → BelR a b d a' b' d' last (.tup [.int .i64 0, .bool false, .int .i64 1]) ∧ nameless (.tup [.int .i64 0, .bool false, .int .i64 1]) = true := fun h => ⟨by unfold BelR; rw [if_neg h], rfl⟩
  refine enter tt_ok Try.func17 (nt := 40) (cd := body Try.f17) rfl rfl rfl rfl ?_
  intro _
  refine call_pure [] (rvalid_ok a b d) rfl rfl rfl ?_ ?_ ?_
  · (repeat' first | exact trivial | exact rfl | refine And.intro ?_ ?_)
  · (repeat' first | exact trivial | exact rfl | refine And.intro ?_ ?_)
  intro v hv _
  subst hv
  intro _
  refine call_pure [] (rvalid_ok a' b' d') rfl rfl rfl ?_ ?_ ?_
  · (repeat' first | exact trivial | exact rfl | refine And.intro ?_ ?_)
  · (repeat' first | exact trivial | exact rfl | refine And.intro ?_ ?_)
  intro v hv _
  subst hv
  intro _; refine ⟨fun g => ?_, fun g => ?_⟩
  · have g : (!decide (Qv a b d)) = true := g
    rw [Bool.not_eq_true'] at g
    have g := of_decide_eq_false g
    intro _
    exact no (fun h => g h.1)
  have g : (!decide (Qv a b d)) = false := g
  rw [Bool.not_eq_false'] at g
  have h := of_decide_eq_true g
  intro _; refine ⟨fun g => ?_, fun g => ?_⟩
  · have g : (!decide (Qv a' b' d')) = true := g
    rw [Bool.not_eq_true'] at g
    have g := of_decide_eq_false g
    intro _
    exact no (fun h => g h.2.1)
  have g : (!decide (Qv a' b' d')) = false := g
  rw [Bool.not_eq_false'] at g
  have h' := of_decide_eq_true g
  intro _
  refine rplace_test _ _ _ ?_
  intro _; refine ⟨fun g => ?_, fun g => ?_⟩
  · have g : (!decide (Pl last)) = true := g
    rw [Bool.not_eq_true'] at g
    have g := of_decide_eq_false g
    intro _
    exact no (fun h => g h.2.2)
  have g : (!decide (Pl last)) = false := g
  rw [Bool.not_eq_false'] at g
  have hl := of_decide_eq_true g
  intro _
  refine loop2 tt_ok [11] [] 2 (fun k : { k : Nat // (k : Int) ≤ last + 1 ∧ ∀ i : Int, 0 ≤ i → i < k → ¬ qv a b d i < qv a' b' d' i } => [(11, .int .i64 (k : Nat))]) (fun _ => []) (fun k => (last + 1 - k).toNat) ⟨0, by have := hl.1; omega, fun i h1 h2 => by omega⟩ ?_
  intro _
  refine ⟨⟨th [] 2, rfl, rfl, rfl, rfl, rfl, rfl, ?_, ?_⟩, ?_⟩
  · (repeat' first | exact trivial | exact rfl | refine And.intro ?_ ?_)
  · (repeat' first | exact trivial | exact rfl | refine And.intro ?_ ?_)
  intro ⟨k, hk, hmk⟩
  have := hl.1; have := hl.2
  intro _; refine ⟨fun g => ?_, fun g => ?_⟩
  rotate_left
  · have g := of_decide_eq_false (show decide ((k : Int) ≤ last) = false from g)
    intro _
    exact ⟨by unfold BelR; rw [if_pos ⟨h, h', hl⟩]; exact .inr ⟨fun i h1 h2 => hmk i h1 (by omega), rfl⟩, rfl⟩
  have g := of_decide_eq_true (show decide ((k : Int) ≤ last) = true from g)
  have hn : 0 ≤ (k : Int) ∧ (k : Int) ≤ 4001 := by omega
  have ek : IntKind.i64.wrap ((k : Int) + 1) = ((k + 1 : Nat) : Int) := wrap_nat k (by omega)
  intro _
  refine Or.inl ?_
  intro _
  refine call_pure [] (value_ok a b d k h hn) rfl rfl rfl ?_ ?_ ?_
  · (repeat' first | exact trivial | exact rfl | refine And.intro ?_ ?_)
  · (repeat' first | exact trivial | exact rfl | refine And.intro ?_ ?_)
  intro v hv _
  subst hv
  intro _
  refine Or.inl ?_
  intro _
  refine call_pure [] (value_ok a' b' d' k h' hn) rfl rfl rfl ?_ ?_ ?_
  · (repeat' first | exact trivial | exact rfl | refine And.intro ?_ ?_)
  · (repeat' first | exact trivial | exact rfl | refine And.intro ?_ ?_)
  intro v hv _
  subst hv
  intro _; refine ⟨by kernel_rfl, ?_⟩
  intro _; refine ⟨fun g => ?_, fun g => ?_⟩
  · have g2 := of_decide_eq_true (show decide (qv a b d k < qv a' b' d' k) = true from g)
    intro _
    exact ⟨by unfold BelR; rw [if_pos ⟨h, h', hl⟩]; exact .inl ⟨k, by omega, by omega, g2, hmk, rfl⟩, rfl⟩
  have g2 := of_decide_eq_false (show decide (qv a b d k < qv a' b' d' k) = false from g)
  refine ⟨⟨k + 1, by omega, fun i h1 h2 => ?_⟩, by show (last + 1 - ((k + 1 : Nat) : Int)).toNat < (last + 1 - (k : Int)).toNat; omega, th [] 2, rfl, rfl, rfl, rfl, rfl, rfl, ?_, ?_⟩
  · by_cases e : i = k
    · subst e; exact g2
    · exact hmk i h1 (by omega)
  · (repeat' first | exact trivial | exact rfl | refine And.intro ?_ ?_)
    exact ek.symm
  · (repeat' first | exact trivial | exact rfl | refine And.intro ?_ ?_)
theorem Kx_inj2 {a b : Int} (h : Kx a = Kx b) : a = b := by
  unfold Kx at h
  split at h <;> split at h <;> omega
theorem FitR.uniq {l : List Int} {v w : V} (h : FitR l v) (k : FitR l w) : v = w := by
  unfold FitR at h k
  split at h
  · rename_i c; rw [if_pos c] at k; rw [h, k]
  rename_i c
  rw [if_neg c] at k
  split at h
  · rename_i c2; rw [if_pos c2] at k; rw [h, k]
  rename_i c2
  rw [if_neg c2] at k
  rcases h with ⟨d, a, hd, ha, hf, hb, hm, rfl⟩ | ⟨hb, rfl⟩
  · rcases k with ⟨d', a', hd', ha', hf', hb', hm', rfl⟩ | ⟨hb', rfl⟩
    · have ed : d = d' := by
        rcases Int.lt_trichotomy d d' with q | q | q
        · exact absurd hf (hb' d a hd.1 q ha)
        · exact q
        · exact absurd hf' (hb d' a' hd'.1 q ha')
      subst ed
      have ea : a = a' := by
        rcases Int.lt_trichotomy (Kx a) (Kx a') with q | q | q
        · exact absurd hf (hm' a ha q)
        · exact Kx_inj2 q
        · exact absurd hf' (hm a' ha' q)
      subst ea
      rfl
    · exact absurd hf (hb' d a hd.1 (by omega) ha)
  · rcases k with ⟨d', a', hd', ha', hf', hb', hm', rfl⟩ | ⟨hb', rfl⟩
    · exact absurd hf' (hb d' a' hd'.1 (by omega) ha')
    · rfl
theorem FitR.form {l : List Int} {v : V} (h : FitR l v) : ∃ a b d f e, v = .tup [QV a b d, .bool f, .int .i64 e] := by
  unfold FitR at h
  split at h
  · exact ⟨_, _, _, _, _, h⟩
  split at h
  · exact ⟨_, _, _, _, _, h⟩
  rcases h with ⟨d, a, _, _, _, _, _, rfl⟩ | ⟨_, rfl⟩
  · exact ⟨_, _, _, _, _, rfl⟩
  · exact ⟨_, _, _, _, _, rfl⟩
theorem vd_bd2 {l : List Int} {d a : Int} (hC : AllC l) (hd : 1 ≤ d ∧ d ≤ 16) (ha : -40000000000 ≤ a ∧ a ≤ 40000000000) (hl : l.length ≤ 4000) {k : Nat} (hk : k < l.length) : (-16000000000 ≤ d * raw l k ∧ d * raw l k ≤ 16000000000) ∧ (-160000000000000 ≤ a * k ∧ a * k ≤ 160000000000000) := by
  have h := hC k hk
  have h1 := h.1; have h2 := h.2
  have a1 : d * (-1000000000) ≤ d * raw l k := Int.mul_le_mul_of_nonneg_left h1 (by omega)
  have a2 : d * raw l k ≤ d * 1000000000 := Int.mul_le_mul_of_nonneg_left h2 (by omega)
  have c1 : (-40000000000) * (k : Int) ≤ a * k := Int.mul_le_mul_of_nonneg_right ha.1 (by omega)
  have c2 : a * (k : Int) ≤ 40000000000 * k := Int.mul_le_mul_of_nonneg_right ha.2 (by omega)
  omega
theorem least_ok (l : List Int) (a d : Int) (hC : AllC l) (hd : 1 ≤ d ∧ d ≤ 16) (ha : -40000000000 ≤ a ∧ a ≤ 40000000000) (hl : l.length ≤ 4000) : SemF Try.prog 43 [.slc 0 1 0 l.length, .int .i64 a, .int .i64 d] ⟨1, 1, DV l⟩ (fun v _ => v = .tup [.int .i64 (lw l d a l.length), .test (decide (lw l d a l.length ≤ hw l d a l.length))] ∧ nameless v = true) := by
  refine enter tt_ok Try.func43 (nt := 48) (cd := body Try.f43) rfl rfl rfl rfl ?_
  intro _
  refine loop2 tt_ok [8, 9, 10] [] 1 (fun k : { k : Nat // k ≤ l.length } => [(8, .int .i64 (lw l d a k.1)), (9, .int .i64 (hw l d a k.1)), (10, .int .i64 (k.1 : Nat))]) (fun _ => []) (fun k => l.length - k.1) ⟨0, Nat.zero_le _⟩ ?_
  intro _
  refine ⟨⟨th [] 1, rfl, rfl, rfl, rfl, rfl, rfl, ?_, ?_⟩, ?_⟩
  · (repeat' first | exact trivial | exact rfl | refine And.intro ?_ ?_)
  · (repeat' first | exact trivial | exact rfl | refine And.intro ?_ ?_)
  intro ⟨k, hk⟩
  have hk : k ≤ l.length := hk
  intro _; refine ⟨fun g => ?_, fun g => ?_⟩
  rotate_left
  · have g := of_decide_eq_false (show decide ((k : Int) < (l.length : Int)) = false from g)
    have : k = l.length := by omega
    subst this
    intro _
    exact ⟨rfl, rfl⟩
  have g := of_decide_eq_true (show decide ((k : Int) < (l.length : Int)) = true from g)
  have vb := vd_bd2 hC hd ha hl (k := k) (by omega)
  have ev : l.getD (0 + ((k : Nat) : Int).toNat) 0 = raw l k := by rw [Nat.zero_add]; rfl
  intro _; refine ⟨show 0 ≤ (k : Int) ∧ (k : Int) < (l.length : Int) by omega, ?_⟩
  intro _; refine ⟨show 0 + (k : Int).toNat < l.length by omega, ?_⟩
  intro _; refine ⟨show 0 ≤ (k : Int) ∧ (k : Int) < (l.length : Int) by omega, ?_⟩
  intro _; refine ⟨show 0 + (k : Int).toNat < l.length by omega, ?_⟩
  refine ⟨⟨k + 1, by show k + 1 ≤ l.length; omega⟩, by show l.length - (k + 1) < l.length - k; omega, th [] 1, rfl, rfl, rfl, rfl, rfl, rfl, ?_, ?_⟩
  · (repeat' first | exact trivial | exact rfl | refine And.intro ?_ ?_)
    · show max (lw l d a k) (d * raw l k - a * k) = max (lw l d a k) (IntKind.i64.wrap (IntKind.i64.wrap (d * l.getD (0 + ((k : Nat) : Int).toNat) 0) - IntKind.i64.wrap (a * (k : Int))))
      rw [ev, wrapS (d * raw l k) ⟨by omega, by omega⟩, wrapS (a * (k : Int)) ⟨by omega, by omega⟩, wrapS _ ⟨by omega, by omega⟩]
    · show min (hw l d a k) (d * raw l k - a * k + d - 1) = min (hw l d a k) (IntKind.i64.wrap (IntKind.i64.wrap (IntKind.i64.wrap (IntKind.i64.wrap (d * l.getD (0 + ((k : Nat) : Int).toNat) 0) + d) - 1) - IntKind.i64.wrap (a * (k : Int))))
      rw [ev, wrapS (d * raw l k) ⟨by omega, by omega⟩, wrapS (a * (k : Int)) ⟨by omega, by omega⟩, wrapS (d * raw l k + d) ⟨by omega, by omega⟩, wrapS (d * raw l k + d - 1) ⟨by omega, by omega⟩, wrapS _ ⟨by omega, by omega⟩]
      have : d * raw l k - a * k + d - 1 = d * raw l k + d - 1 - a * k := by omega
      rw [this]
    · exact (wrap_nat k (by omega)).symm
  · (repeat' first | exact trivial | exact rfl | refine And.intro ?_ ?_)
theorem abs_ok (n : Int) (h : -4000000000000000000 ≤ n ∧ n ≤ 4000000000000000000) : SemF Try.prog 36 [.int .i64 n] ⟨0, 0, []⟩ (fun v _ => v = .int .i64 (max n (-n)) ∧ nameless v = true) := by
  refine enter tt_ok Try.func36 (nt := 7) (cd := body Try.f36) rfl rfl rfl rfl ?_
  intro _
  refine ⟨?_, rfl⟩
  show V.int .i64 (max n (IntKind.i64.wrap (0 - n))) = _
  rw [wrapS _ ⟨by omega, by omega⟩, Int.zero_sub]
theorem rfirst1_ok (l : List Int) (d : Int) (hC : AllC l) (h1 : l.length = 1) (hd : 1 ≤ d ∧ d ≤ 16) : SemF Try.prog 35 [.slc 0 1 0 l.length, .int .i64 d] ⟨1, 1, DV l⟩ (fun v _ => v = .tup [QV 0 (lw l d 0 l.length) d, .test (decide (lw l d 0 l.length ≤ hw l d 0 l.length))] ∧ nameless v = true) := by
  refine enter tt_ok Try.func35 (nt := 94) (cd := body Try.f35) rfl rfl rfl rfl ?_
  intro _; refine ⟨fun g => ?_, fun g => ?_⟩
  rotate_left
  · have g := beq_eq_false_iff_ne.1 (show ((l.length : Int) == 1) = false from g)
    omega
  intro _
  refine call_pure [(0, some 0)] (least_ok l 0 d hC hd ⟨by decide, by decide⟩ (by omega)) rfl rfl rfl ?_ ?_ ?_
  · (repeat' first | exact trivial | exact rfl | refine And.intro ?_ ?_)
  · (repeat' first | exact trivial | exact rfl | refine And.intro ?_ ?_)
  intro v hv _
  subst hv
  intro _
  exact ⟨rfl, rfl⟩
instance decFe (l : List Int) (d a : Int) : Decidable (Fe l d a) := inferInstanceAs (Decidable (_ ≤ _))
/-- the slopes of the reference that are tried before one -/
def Tr (l : List Int) (d lo a x : Int) : Prop := lo ≤ x ∧ x < a ∧ Cd x ∧ Fe l d x
def Bst (l : List Int) (d lo a : Int) : Option Int → Prop
  | none => ∀ x, ¬ Tr l d lo a x
  | some x => Tr l d lo a x ∧ ∀ y, Tr l d lo a y → Kx x ≤ Kx y
def oQ (l : List Int) (d : Int) : Option Int → List V
  | none => [.int .i64 0, .int .i64 0, .int .i64 0]
  | some x => [.int .i64 x, .int .i64 (lw l d x l.length), .int .i64 d]
def loS (l : List Int) (d : Int) : Int := -(fl (d - 1 - rise l d) (l.length - 1))
def hiS (l : List Int) (d : Int) : Int := fl (rise l d + d - 1) (l.length - 1)
theorem mem_slopes {l : List Int} {d x : Int} : x ∈ slopes l d ↔ loS l d ≤ x ∧ x ≤ hiS l d ∧ Cd x := by
  unfold slopes
  rw [mem_seqI]
  unfold cntS fromS untilS loS hiS Cd
  omega
theorem Bst.step_no {l : List Int} {d lo a : Int} {o : Option Int} (h : Bst l d lo a o) (k : Cd a → ¬ Fe l d a) : Bst l d lo (a + 1) o := by
  have back : ∀ y, Tr l d lo (a + 1) y → Tr l d lo a y := fun y ⟨h1, h2, h3, h4⟩ => ⟨h1, by
    by_cases e : y = a
    · subst e; exact absurd h4 (k h3)
    · omega, h3, h4⟩
  cases o with
  | none => exact fun x hx => h x (back x hx)
  | some x => exact ⟨⟨h.1.1, by have := h.1.2.1; omega, h.1.2.2⟩, fun y hy => h.2 y (back y hy)⟩
theorem Bst.step_new {l : List Int} {d lo a : Int} (h : Bst l d lo a none) (ha : lo ≤ a) (hc : Cd a) (hf : Fe l d a) : Bst l d lo (a + 1) (some a) := by
  refine ⟨⟨ha, by omega, hc, hf⟩, fun y ⟨h1, h2, h3, h4⟩ => ?_⟩
  by_cases e : y = a
  · subst e; exact Int.le_refl _
  · exact absurd ⟨h1, by omega, h3, h4⟩ (h y)
theorem Bst.step_better {l : List Int} {d lo a x : Int} (h : Bst l d lo a (some x)) (ha : lo ≤ a) (hc : Cd a) (hf : Fe l d a) (k : max a (-a) < max x (-x)) : Bst l d lo (a + 1) (some a) := by
  refine ⟨⟨ha, by omega, hc, hf⟩, fun y ⟨h1, h2, h3, h4⟩ => ?_⟩
  by_cases e : y = a
  · subst e; exact Int.le_refl _
  · have q := h.2 y ⟨h1, by omega, h3, h4⟩
    unfold Kx at q ⊢
    split at q <;> split at q <;> split <;> omega
theorem Bst.step_keep {l : List Int} {d lo a x : Int} (h : Bst l d lo a (some x)) (k : ¬ max a (-a) < max x (-x)) : Bst l d lo (a + 1) (some x) := by
  refine ⟨⟨h.1.1, by have := h.1.2.1; omega, h.1.2.2⟩, fun y ⟨h1, h2, h3, h4⟩ => ?_⟩
  by_cases e : y = a
  · have hx := h.1.2.1
    subst e
    unfold Kx
    split <;> split <;> omega
  · exact h.2 y ⟨h1, by omega, h3, h4⟩
theorem rfirst_ok (l : List Int) (d : Int) (hC : AllC l) (h1 : 2 ≤ l.length) (hl : l.length ≤ 4000) (hd : 1 ≤ d ∧ d ≤ 16) : SemF Try.prog 35 [.slc 0 1 0 l.length, .int .i64 d] ⟨1, 1, DV l⟩ (fun v _ => (∃ o, Bst l d (loS l d) (max (loS l d) (hiS l d + 1)) o ∧ v = .tup [.agg (oQ l d o), .bool o.isSome]) ∧ nameless v = true) := by
  have rb := rise_bd hC h1 hd
  have eL : IntKind.i64.wrap ((l.length : Int) - 1) = (l.length : Int) - 1 := wrapS _ ⟨by omega, by omega⟩
  have va := hC (l.length - 1) (by omega)
  have vb := hC 0 (by omega)
  have va1 := va.1; have va2 := va.2; have vb1 := vb.1; have vb2 := vb.2
  have f1 := fl_bd (d - 1 - rise l d) (l.length - 1) (by omega) 33000000000 ⟨by omega, by omega⟩
  have f2 := fl_bd (rise l d + d - 1) (l.length - 1) (by omega) 33000000000 ⟨by omega, by omega⟩
  have b1 : -33000000001 ≤ loS l d ∧ loS l d ≤ 33000000001 := by unfold loS; omega
  have b2 : -33000000001 ≤ hiS l d ∧ hiS l d ≤ 33000000001 := by unfold hiS; omega
  refine enter tt_ok Try.func35 (nt := 94) (cd := body Try.f35) rfl rfl rfl rfl ?_
  intro _; refine ⟨fun g => ?_, fun g => ?_⟩
  · have g := beq_iff_eq.1 (show ((l.length : Int) == 1) = true from g)
    omega
  intro _; refine ⟨show 0 ≤ IntKind.i64.wrap ((l.length : Int) - 1) ∧ IntKind.i64.wrap ((l.length : Int) - 1) < (l.length : Int) by rw [eL]; omega, ?_⟩
  intro _; refine ⟨show 0 + (IntKind.i64.wrap ((l.length : Int) - 1)).toNat < l.length by rw [eL]; omega, ?_⟩
  intro _; refine ⟨show 0 ≤ (0 : Int) ∧ (0 : Int) < (l.length : Int) by omega, ?_⟩
  intro _; refine ⟨show 0 + (0 : Int).toNat < l.length by show 0 + 0 < l.length; omega, ?_⟩
  intro _; refine ⟨by kernel_rfl, ?_⟩
  have eV : l.getD (0 + (IntKind.i64.wrap ((l.length : Int) - 1)).toNat) 0 = raw l (l.length - 1) := by
    rw [eL, Nat.zero_add, show ((l.length : Int) - 1).toNat = l.length - 1 by omega]; rfl
  have eW : l.getD (0 + (0 : Int).toNat) 0 = raw l 0 := rfl
  obtain ⟨R, hR⟩ : ∃ R, R = IntKind.i64.wrap (d * IntKind.i64.wrap (l.getD (0 + (IntKind.i64.wrap ((l.length : Int) - 1)).toNat) 0 - l.getD (0 + (0 : Int).toNat) 0)) := ⟨_, rfl⟩
  have eR : R = rise l d := by
    rw [hR, eV, eW, wrapS (raw l (l.length - 1) - raw l 0) ⟨by omega, by omega⟩]
    show IntKind.i64.wrap (rise l d) = rise l d
    rw [wrapS _ ⟨by omega, by omega⟩]
  intro _
  refine call_pure [] (rfloor_ok (d - 1 - rise l d) (l.length - 1) (by omega) ⟨by omega, by omega⟩) rfl rfl rfl ?_ ?_ ?_
  · (repeat' first | exact trivial | exact rfl | refine And.intro ?_ ?_)
  · (repeat' first | exact trivial | exact rfl | refine And.intro ?_ ?_)
    first | (refine Eq.trans ?_ (congrArg (fun r => IntKind.i64.wrap (0 - IntKind.i64.wrap (IntKind.i64.wrap (r - d) + 1))) hR); show _ = IntKind.i64.wrap (0 - IntKind.i64.wrap (IntKind.i64.wrap (R - d) + 1)); rw [eR, wrapS (rise l d - d) ⟨by omega, by omega⟩, wrapS (rise l d - d + 1) ⟨by omega, by omega⟩, wrapS _ ⟨by omega, by omega⟩]; omega) | exact eL.symm
    exact eL.symm
  intro v hv _
  subst hv
  intro _
  refine call_pure [] (rfloor_ok (rise l d + d - 1) (l.length - 1) (by omega) ⟨by omega, by omega⟩) rfl rfl rfl ?_ ?_ ?_
  · (repeat' first | exact trivial | exact rfl | refine And.intro ?_ ?_)
  · (repeat' first | exact trivial | exact rfl | refine And.intro ?_ ?_)
    first | (refine Eq.trans ?_ (congrArg (fun r => IntKind.i64.wrap (IntKind.i64.wrap (r + d) - 1)) hR); show _ = IntKind.i64.wrap (IntKind.i64.wrap (R + d) - 1); rw [eR, wrapS (rise l d + d) ⟨by omega, by omega⟩, wrapS _ ⟨by omega, by omega⟩]) | exact eL.symm
    exact eL.symm
  intro v hv _
  subst hv
  intro _
  refine loop2 tt_ok [13, 14] [2] 3 (fun p : { p : Int × Option Int // (loS l d ≤ p.1 ∧ p.1 ≤ max (loS l d) (hiS l d + 1)) ∧ Bst l d (loS l d) p.1 p.2 } => [(13, .bool p.1.2.isSome), (14, .int .i64 p.1.1)]) (fun p => [(2, .cells (oQ l d p.1.2))]) (fun p => (hiS l d + 1 - p.1.1).toNat) ⟨(loS l d, none), ⟨Int.le_refl _, by show loS l d ≤ _; omega⟩, fun x hx => by have h1 := hx.1; have h2 := hx.2.1; simp only at h2; omega⟩ ?_
  intro _
  refine ⟨⟨th [(2, some 2)] 3, rfl, rfl, rfl, rfl, rfl, rfl, ?_, ?_⟩, ?_⟩
  · (repeat' first | exact trivial | exact rfl | refine And.intro ?_ ?_)
    show loS l d = IntKind.i64.wrap (0 - fl (d - 1 - rise l d) (l.length - 1))
    rw [wrapS _ ⟨by omega, by omega⟩, Int.zero_sub]; rfl
  · (repeat' first | exact trivial | exact rfl | refine And.intro ?_ ?_)
  intro ⟨⟨a, o⟩, ⟨ha1, ha2⟩, hB⟩
  have ha1 : loS l d ≤ a := ha1
  have ha2 : a ≤ max (loS l d) (hiS l d + 1) := ha2
  have hB : Bst l d (loS l d) a o := hB
  intro _; refine ⟨fun g => ?_, fun g => ?_⟩
  rotate_left
  · have g := of_decide_eq_false (show decide (a ≤ hiS l d) = false from g)
    have hae : a = max (loS l d) (hiS l d + 1) := by omega
    subst hae
    cases o with
    | none =>
      intro _
      exact ⟨⟨none, hB, rfl⟩, rfl⟩
    | some x =>
      intro _
      exact ⟨⟨some x, hB, rfl⟩, rfl⟩
  have g := of_decide_eq_true (show decide (a ≤ hiS l d) = true from g)
  intro _
  refine call_pure [(0, some 0)] (least_ok l a d hC hd ⟨by omega, by omega⟩ hl) rfl rfl rfl ?_ ?_ ?_
  · (repeat' first | exact trivial | exact rfl | refine And.intro ?_ ?_)
  · (repeat' first | exact trivial | exact rfl | refine And.intro ?_ ?_)
  intro v hv _
  subst hv
  cases o with
  | none =>
    intro _; refine ⟨fun g => ?_, fun g => ?_⟩
    · have hf : Fe l d a := of_decide_eq_true (show decide (lw l d a l.length ≤ hw l d a l.length) = true from g)
      intro _
      refine Or.inl ?_
      intro _
      refine rcoord_test _ _ _ ?_
      intro _; refine ⟨fun g => ?_, fun g => ?_⟩
      · have hc := of_decide_eq_true (show decide (Cd a) = true from g)
        intro _; refine ⟨by kernel_rfl, ?_⟩
        refine ⟨⟨(a + 1, some a), ⟨by show loS l d ≤ a + 1; omega, by show a + 1 ≤ _; omega⟩, Bst.step_new hB ha1 hc hf⟩, by show (hiS l d + 1 - (a + 1)).toNat < (hiS l d + 1 - a).toNat; omega, th [(2, some 2)] 3, rfl, rfl, rfl, rfl, rfl, rfl, ?_, ?_⟩
        · (repeat' first | exact trivial | exact rfl | refine And.intro ?_ ?_)
          exact (wrapS (a + 1) ⟨by omega, by omega⟩).symm
        · (repeat' first | exact trivial | exact rfl | refine And.intro ?_ ?_)
      · have hc := of_decide_eq_false (show decide (Cd a) = false from g)
        intro _; refine ⟨by kernel_rfl, ?_⟩
        refine ⟨⟨(a + 1, none), ⟨by show loS l d ≤ a + 1; omega, by show a + 1 ≤ _; omega⟩, Bst.step_no hB (fun q => absurd q hc)⟩, by show (hiS l d + 1 - (a + 1)).toNat < (hiS l d + 1 - a).toNat; omega, th [(2, some 2)] 3, rfl, rfl, rfl, rfl, rfl, rfl, ?_, ?_⟩
        · (repeat' first | exact trivial | exact rfl | refine And.intro ?_ ?_)
          exact (wrapS (a + 1) ⟨by omega, by omega⟩).symm
        · (repeat' first | exact trivial | exact rfl | refine And.intro ?_ ?_)
    · have hf : ¬ Fe l d a := of_decide_eq_false (show decide (lw l d a l.length ≤ hw l d a l.length) = false from g)
      intro _; refine ⟨by kernel_rfl, ?_⟩
      refine ⟨⟨(a + 1, none), ⟨by show loS l d ≤ a + 1; omega, by show a + 1 ≤ _; omega⟩, Bst.step_no hB (fun _ => hf)⟩, by show (hiS l d + 1 - (a + 1)).toNat < (hiS l d + 1 - a).toNat; omega, th [(2, some 2)] 3, rfl, rfl, rfl, rfl, rfl, rfl, ?_, ?_⟩
      · (repeat' first | exact trivial | exact rfl | refine And.intro ?_ ?_)
        exact (wrapS (a + 1) ⟨by omega, by omega⟩).symm
      · (repeat' first | exact trivial | exact rfl | refine And.intro ?_ ?_)
  | some x =>
    have hx := hB.1.2.2.1
    have hx1 := hx.1; have hx2 := hx.2
    intro _; refine ⟨fun g => ?_, fun g => ?_⟩
    · have hf : Fe l d a := of_decide_eq_true (show decide (lw l d a l.length ≤ hw l d a l.length) = true from g)
      intro _
      refine Or.inl ?_
      intro _
      refine rcoord_test _ _ _ ?_
      intro _; refine ⟨fun g => ?_, fun g => ?_⟩
      · have hc := of_decide_eq_true (show decide (Cd a) = true from g)
        intro _
        refine Or.inl ?_
        intro _
        refine call_pure [] (abs_ok a ⟨by omega, by omega⟩) rfl rfl rfl ?_ ?_ ?_
        · (repeat' first | exact trivial | exact rfl | refine And.intro ?_ ?_)
        · (repeat' first | exact trivial | exact rfl | refine And.intro ?_ ?_)
        intro v hv _
        subst hv
        intro _
        refine Or.inl ?_
        intro _
        refine call_pure [] (abs_ok x ⟨by omega, by omega⟩) rfl rfl rfl ?_ ?_ ?_
        · (repeat' first | exact trivial | exact rfl | refine And.intro ?_ ?_)
        · (repeat' first | exact trivial | exact rfl | refine And.intro ?_ ?_)
        intro v hv _
        subst hv
        intro _; refine ⟨by kernel_rfl, ?_⟩
        intro _; refine ⟨fun g => ?_, fun g => ?_⟩
        · have g := of_decide_eq_true (show decide (max a (-a) < max x (-x)) = true from g)
          refine ⟨⟨(a + 1, some a), ⟨by show loS l d ≤ a + 1; omega, by show a + 1 ≤ _; omega⟩, Bst.step_better hB ha1 hc hf g⟩, by show (hiS l d + 1 - (a + 1)).toNat < (hiS l d + 1 - a).toNat; omega, th [(2, some 2)] 3, rfl, rfl, rfl, rfl, rfl, rfl, ?_, ?_⟩
          · (repeat' first | exact trivial | exact rfl | refine And.intro ?_ ?_)
            exact (wrapS (a + 1) ⟨by omega, by omega⟩).symm
          · (repeat' first | exact trivial | exact rfl | refine And.intro ?_ ?_)
        · have g := of_decide_eq_false (show decide (max a (-a) < max x (-x)) = false from g)
          refine ⟨⟨(a + 1, some x), ⟨by show loS l d ≤ a + 1; omega, by show a + 1 ≤ _; omega⟩, Bst.step_keep hB g⟩, by show (hiS l d + 1 - (a + 1)).toNat < (hiS l d + 1 - a).toNat; omega, th [(2, some 2)] 3, rfl, rfl, rfl, rfl, rfl, rfl, ?_, ?_⟩
          · (repeat' first | exact trivial | exact rfl | refine And.intro ?_ ?_)
            exact (wrapS (a + 1) ⟨by omega, by omega⟩).symm
          · (repeat' first | exact trivial | exact rfl | refine And.intro ?_ ?_)
      · have hc := of_decide_eq_false (show decide (Cd a) = false from g)
        intro _; refine ⟨by kernel_rfl, ?_⟩
        refine ⟨⟨(a + 1, some x), ⟨by show loS l d ≤ a + 1; omega, by show a + 1 ≤ _; omega⟩, Bst.step_no hB (fun q => absurd q hc)⟩, by show (hiS l d + 1 - (a + 1)).toNat < (hiS l d + 1 - a).toNat; omega, th [(2, some 2)] 3, rfl, rfl, rfl, rfl, rfl, rfl, ?_, ?_⟩
        · (repeat' first | exact trivial | exact rfl | refine And.intro ?_ ?_)
          exact (wrapS (a + 1) ⟨by omega, by omega⟩).symm
        · (repeat' first | exact trivial | exact rfl | refine And.intro ?_ ?_)
    · have hf : ¬ Fe l d a := of_decide_eq_false (show decide (lw l d a l.length ≤ hw l d a l.length) = false from g)
      intro _; refine ⟨by kernel_rfl, ?_⟩
      refine ⟨⟨(a + 1, some x), ⟨by show loS l d ≤ a + 1; omega, by show a + 1 ≤ _; omega⟩, Bst.step_no hB (fun _ => hf)⟩, by show (hiS l d + 1 - (a + 1)).toNat < (hiS l d + 1 - a).toNat; omega, th [(2, some 2)] 3, rfl, rfl, rfl, rfl, rfl, rfl, ?_, ?_⟩
      · (repeat' first | exact trivial | exact rfl | refine And.intro ?_ ?_)
        exact (wrapS (a + 1) ⟨by omega, by omega⟩).symm
      · (repeat' first | exact trivial | exact rfl | refine And.intro ?_ ?_)
theorem RFit_ok (l : List Int) (hl : l.length ≤ 9223372036854775807) : SemF Try.prog 15 [.slc 0 1 0 l.length] ⟨1, 1, DV l⟩ (fun v _ => FitR l v ∧ nameless v = true) := by
  refine enter tt_ok Try.func15 (nt := 31) (cd := body Try.f15) rfl rfl rfl rfl ?_
  intro _; refine ⟨fun g => ?_, fun g => ?_⟩
  · have g := of_decide_eq_true (show decide ((l.length : Int) > 4000) = true from g)
    intro _
    exact ⟨by unfold FitR; rw [if_pos (by omega)], rfl⟩
  have g1 := of_decide_eq_false (show decide ((l.length : Int) > 4000) = false from g)
  have no : l.length = 0 ∨ ¬ AllC l → FitR l (.tup [QV 0 0 0, .bool false, .int .i64 1]) ∧ nameless (.tup [QV 0 0 0, .bool false, .int .i64 1]) = true := fun h => ⟨by unfold FitR; rw [if_neg (by omega), if_pos h], rfl⟩
  intro _
  refine call_pure [(0, some 0)] (vals_ok l hl) rfl rfl rfl ?_ ?_ ?_
  · (repeat' first | exact trivial | exact rfl | refine And.intro ?_ ?_)
  · (repeat' first | exact trivial | exact rfl | refine And.intro ?_ ?_)
  intro v hv _
  subst hv
  intro _; refine ⟨fun g => ?_, fun g => ?_⟩
  · have g : (!decide (Vls l)) = true := g
    rw [Bool.not_eq_true'] at g
    have g := of_decide_eq_false g
    intro _
    refine no ?_
    by_cases e : l.length = 0
    · exact .inl e
    · exact .inr fun q => g ⟨q, by omega, by omega⟩
  have g2 : (!decide (Vls l)) = false := g
  rw [Bool.not_eq_false'] at g2
  have hV := of_decide_eq_true g2
  have hC := hV.1
  have hlen := hV.2.1
  have hl4 := hV.2.2
  intro _
  refine loop2 tt_ok [6] [] 2 (fun e : { e : Nat // (1 ≤ e ∧ e ≤ 17) ∧ Bef l e } => [(6, .int .i64 (e.1 : Nat))]) (fun _ => []) (fun e => 17 - e.1) ⟨1, ⟨by omega, by omega⟩, fun e a h1 h2 => by omega⟩ ?_
  intro _
  refine ⟨⟨th [] 2, rfl, rfl, rfl, rfl, rfl, rfl, ?_, ?_⟩, ?_⟩
  · (repeat' first | exact trivial | exact rfl | refine And.intro ?_ ?_)
  · (repeat' first | exact trivial | exact rfl | refine And.intro ?_ ?_)
  intro ⟨e, ⟨he1, he2⟩, hBe⟩
  intro _; refine ⟨fun g => ?_, fun g => ?_⟩
  rotate_left
  · have g := of_decide_eq_false (show decide ((e : Int) ≤ 16) = false from g)
    have : e = 17 := by omega
    subst this
    intro _
    exact ⟨by unfold FitR; rw [if_neg (by omega), if_neg (fun h => h.elim (fun q => by omega) (fun q => q hC))]; exact .inr ⟨hBe, rfl⟩, rfl⟩
  have g := of_decide_eq_true (show decide ((e : Int) ≤ 16) = true from g)
  have hd : 1 ≤ (e : Int) ∧ (e : Int) ≤ 16 := by omega
  have nxt : (∀ a, a ∈ SS l e → ¬ Fe l e a) → Bef l ((e + 1 : Nat) : Int) := fun k e' a h1 h2 h3 => by
    by_cases q : e' = e
    · rw [q]; rw [q] at h3; exact k a h3
    · exact hBe e' a h1 (by omega) h3
  have wE : ((e + 1 : Nat) : Int) = IntKind.i64.wrap ((e : Int) + 1) := by rw [wrapS _ ⟨by omega, by omega⟩]; omega
  intro _
  by_cases h1 : l.length = 1
  · have eS : SS l e = [0] := by unfold SS; rw [if_pos h1]
    refine call_pure [(0, some 0)] (rfirst1_ok l e hC h1 hd) rfl rfl rfl ?_ ?_ ?_
    · (repeat' first | exact trivial | exact rfl | refine And.intro ?_ ?_)
    · (repeat' first | exact trivial | exact rfl | refine And.intro ?_ ?_)
    intro v hv _
    subst hv
    intro _; refine ⟨fun g => ?_, fun g => ?_⟩
    · have hf := of_decide_eq_true (show decide (lw l e 0 l.length ≤ hw l e 0 l.length) = true from g)
      intro _
      refine ⟨?_, rfl⟩
      unfold FitR
      rw [if_neg (by omega), if_neg (fun h => h.elim (fun q => by omega) (fun q => q hC))]
      exact .inl ⟨e, 0, hd, by rw [eS]; simp, hf, hBe, fun a' h1' h2' => by
        rw [eS] at h1'
        have : a' = 0 := by simpa using h1'
        subst this
        exact absurd h2' (by omega), rfl⟩
    · have hf : ¬ Fe l e 0 := of_decide_eq_false (show decide (lw l e 0 l.length ≤ hw l e 0 l.length) = false from g)
      refine ⟨⟨e + 1, ⟨by omega, by omega⟩, nxt (fun a h => by
        rw [eS] at h
        have : a = 0 := by simpa using h
        subst this; exact hf)⟩, by show 17 - (e + 1) < 17 - e; omega, th [] 2, rfl, rfl, rfl, rfl, rfl, rfl, ?_, ?_⟩
      · (repeat' first | exact trivial | exact rfl | refine And.intro ?_ ?_)
        exact wE
      · (repeat' first | exact trivial | exact rfl | refine And.intro ?_ ?_)
  have eS : ∀ a, a ∈ SS l e ↔ loS l e ≤ a ∧ a ≤ hiS l e ∧ Cd a := fun a => by unfold SS; rw [if_neg h1, mem_slopes]
  refine call_pure [(0, some 0)] (rfirst_ok l e hC (by omega) hl4 hd) rfl rfl rfl ?_ ?_ ?_
  · (repeat' first | exact trivial | exact rfl | refine And.intro ?_ ?_)
  · (repeat' first | exact trivial | exact rfl | refine And.intro ?_ ?_)
  intro v hv _
  obtain ⟨o, hB, rfl⟩ := hv
  cases o with
  | none =>
    refine ⟨⟨e + 1, ⟨by omega, by omega⟩, nxt (fun a h hf => by
      have := (eS a).1 h
      exact hB a ⟨this.1, by omega, this.2.2, hf⟩)⟩, by show 17 - (e + 1) < 17 - e; omega, th [] 2, rfl, rfl, rfl, rfl, rfl, rfl, ?_, ?_⟩
    · (repeat' first | exact trivial | exact rfl | refine And.intro ?_ ?_)
      exact wE
    · (repeat' first | exact trivial | exact rfl | refine And.intro ?_ ?_)
  | some x =>
    intro _
    refine ⟨?_, rfl⟩
    unfold FitR
    rw [if_neg (by omega), if_neg (fun h => h.elim (fun q => by omega) (fun q => q hC))]
    have hx := hB.1
    exact .inl ⟨e, x, hd, (eS x).2 ⟨hx.1, by have := hx.1; have := hx.2.1; omega, hx.2.2.1⟩, hx.2.2.2, hBe, fun a' h1' h2' hf => by
      have q := (eS a').1 h1'
      have := hB.2 a' ⟨q.1, by omega, q.2.2, hf⟩
      omega, rfl⟩
theorem RFit_pre (l : List Int) (n : Nat) (hn : n ≤ l.length) (hl : l.length ≤ 9223372036854775807) : SemF Try.prog 15 [.slc 0 1 0 n] ⟨1, 1, DV l⟩ (fun v _ => FitR (l.take n) v ∧ nameless v = true) := by
  have h := RFit_ok (l.take n) (by rw [tk_len hn]; omega)
  rw [tk_len hn] at h
  exact weak h rfl rfl (pre_dv hn)
theorem atv_form (a b d n : Int) : ∃ x e, atv a b d n = .tup [.int .i64 x, .int .i64 e] := by
  unfold atv; split
  · exact ⟨_, _, rfl⟩
  · exact ⟨_, _, rfl⟩
theorem addv_form (a b d n : Int) : ∃ x y z e, addv a b d n = .tup [QV x y z, .int .i64 e] := by
  unfold addv; split
  · split
    · exact ⟨_, _, _, _, rfl⟩
    · exact ⟨_, _, _, _, rfl⟩
  · exact ⟨_, _, _, _, rfl⟩
theorem law3 (a b d a' b' d' n y : Int) (l : List Int) (hl : l.length ≤ 9223372036854775807) : SemF Try.prog 3 [.agg (QA a b d), .agg (QA a' b' d'), .int .i64 n, .int .i64 y, .slc 0 1 0 l.length] ⟨1, 1, [(0, .arr [.int .i64] .ro (.ints l))]⟩ (fun v _ => IsTrue v) := by
  obtain ⟨m, hm⟩ : ∃ m, m = min l.length 4100 := ⟨_, rfl⟩
  have hn : m ≤ l.length := by omega
  have eN : (min ((l.length : Nat) : Int) 4100 - 0).toNat = m := by omega
  refine enter tt_ok Try.func3 (nt := 139) (cd := body Try.f3) rfl rfl rfl rfl ?_
  intro _
  refine head_ok rfl Try.func7 (cd := body Try.f7) rfl ?_
  intro _; refine ⟨⟨by omega, by omega, by omega⟩, ?_⟩
  intro _
  obtain ⟨x, e, hat⟩ := atv_form a b d n
  refine call_pure [] (at_ok a b d n) rfl rfl rfl ?_ ?_ ?_
  · (repeat' first | exact trivial | exact rfl | refine And.intro ?_ ?_)
  · (repeat' first | exact trivial | exact rfl | refine And.intro ?_ ?_)
  intro v hv _
  rw [hat] at hv
  subst hv
  intro _
  refine call_pure [] (rat_ok a b d n) rfl rfl rfl ?_ ?_ ?_
  · (repeat' first | exact trivial | exact rfl | refine And.intro ?_ ?_)
  · (repeat' first | exact trivial | exact rfl | refine And.intro ?_ ?_)
  intro v hv _
  rw [hat] at hv
  subst hv
  intro _
  refine Or.inl ?_
  intro _
  refine call_pure [] (valid_ok a b d) rfl rfl rfl ?_ ?_ ?_
  · (repeat' first | exact trivial | exact rfl | refine And.intro ?_ ?_)
  · (repeat' first | exact trivial | exact rfl | refine And.intro ?_ ?_)
  intro v hv _
  subst hv
  intro _
  refine Or.inl ?_
  intro _
  refine call_pure [] (rvalid_ok a b d) rfl rfl rfl ?_ ?_ ?_
  · (repeat' first | exact trivial | exact rfl | refine And.intro ?_ ?_)
  · (repeat' first | exact trivial | exact rfl | refine And.intro ?_ ?_)
  intro v hv _
  subst hv
  intro _; refine ⟨fun _ => ?_, fun g => absurd g (by simp)⟩
  intro _; refine ⟨fun _ => ?_, fun g => absurd g (by simp)⟩
  intro _; refine ⟨by kernel_rfl, ?_⟩
  intro _
  obtain ⟨x1, x2, x3, e1, had⟩ := addv_form a b d y
  refine call_pure [] (add_ok a b d y) rfl rfl rfl ?_ ?_ ?_
  · (repeat' first | exact trivial | exact rfl | refine And.intro ?_ ?_)
  · (repeat' first | exact trivial | exact rfl | refine And.intro ?_ ?_)
  intro v hv _
  rw [had] at hv
  subst hv
  intro _
  refine call_pure [] (radd_ok a b d y) rfl rfl rfl ?_ ?_ ?_
  · (repeat' first | exact trivial | exact rfl | refine And.intro ?_ ?_)
  · (repeat' first | exact trivial | exact rfl | refine And.intro ?_ ?_)
  intro v hv _
  rw [had] at hv
  subst hv
  intro _; refine ⟨fun _ => ?_, fun g => absurd g (by simp)⟩
  intro _; refine ⟨fun _ => ?_, fun g => absurd g (by simp)⟩
  intro _
  refine call_pure [(0, some 0)] (Fit_pre l m hn hl) rfl rfl rfl ?_ ?_ ?_
  · (repeat' first | exact trivial | exact rfl | refine And.intro ?_ ?_)
  · (repeat' first | exact trivial | exact rfl | refine And.intro ?_ ?_)
    exact eN.symm
  intro v hv _
  have hv0 := hv
  obtain ⟨y1, y2, y3, f1, e2, rfl⟩ := FitR.form hv
  intro _
  refine call_pure [(0, some 0)] (RFit_pre l m hn hl) rfl rfl rfl ?_ ?_ ?_
  · (repeat' first | exact trivial | exact rfl | refine And.intro ?_ ?_)
  · (repeat' first | exact trivial | exact rfl | refine And.intro ?_ ?_)
    exact eN.symm
  intro v hv _
  have eF := FitR.uniq hv0 hv
  subst eF
  intro _; refine ⟨fun _ => ?_, fun g => absurd g (by simp)⟩
  intro _; refine ⟨fun _ => ?_, fun g => absurd g (by simp)⟩
  intro _; refine ⟨fun _ => ?_, fun g => absurd g (by simp)⟩
  intro _
  refine call_pure [] (belowG_ok a b d a' b' d' n) rfl rfl rfl ?_ ?_ ?_
  · (repeat' first | exact trivial | exact rfl | refine And.intro ?_ ?_)
  · (repeat' first | exact trivial | exact rfl | refine And.intro ?_ ?_)
  intro v hv _
  have hw0 := hv
  obtain ⟨z1, f2, e3, rfl⟩ := BelR.form hv
  intro _
  refine call_pure [] (rbelow_ok a b d a' b' d' n) rfl rfl rfl ?_ ?_ ?_
  · (repeat' first | exact trivial | exact rfl | refine And.intro ?_ ?_)
  · (repeat' first | exact trivial | exact rfl | refine And.intro ?_ ?_)
  intro v hv _
  have eB := BelR.uniq hw0 hv
  subst eB
  intro _; refine ⟨fun _ => ?_, fun g => absurd g (by simp)⟩
  intro _; refine ⟨fun _ => ?_, fun g => absurd g (by simp)⟩
  intro _; refine ⟨fun _ => ?_, fun g => absurd g (by simp)⟩
  intro _
  show _ = true
  simp

def SV (x : Nat → Int) : List V := [.int .i64 (x 0), .int .i64 (x 1), .int .i64 (x 2)]
def SVA (x : Nat → Int) : List Go.Vm.AV := [.int .i64 (x 0), .int .i64 (x 1), .int .i64 (x 2)]
theorem SV_cv (x : Nat → Int) {n : Nat} {ν : Nu} : Cv n ν (.agg (SV x)) (.agg (SVA x)) := by
  simp only [Cv]
  exact ⟨SVA x, rfl, Cvs.cons mk_int (Cvs.cons mk_int (Cvs.cons mk_int (Cvs.nil)))⟩
set_option maxRecDepth 100000 in
theorem arr_of (cs : Array Value) (hs : cs.size = 3) (hc : ∀ i, i < 3 → ∃ n, cs[i]? = some (.int .i64 n)) : ∃ x : Nat → Int, ∀ ρ, Go.Vm.conv ρ (.agg (SVA x)) = some (.agg cs) := by
  refine ⟨fun i => match (cs[i]? : Option Value) with | some (Value.int _ n) => n | _ => (0 : Int), fun ρ => ?_⟩
  have h1 : Go.Vm.convs ρ (SVA fun i => match (cs[i]? : Option Value) with | some (Value.int _ n) => n | _ => (0 : Int)) = some cs.toList := by
    show Go.Vm.convs ρ ((List.range 3).map fun i => Go.Vm.AV.int .i64 (match (cs[i]? : Option Value) with | some (Value.int _ n) => n | _ => (0 : Int))) = _
    refine Go.Vm.convs_of_get (by simp [hs]) (fun i v hv => ?_)
    have hi : i < 3 := by
      rcases Nat.lt_or_ge i 3 with h | h
      · exact h
      · rw [List.getElem?_eq_none (by simpa using h)] at hv; cases hv
    obtain ⟨n, hn⟩ := hc i hi
    rw [List.getElem?_map, List.getElem?_range hi] at hv
    have hv : some (Go.Vm.AV.int .i64 (match (cs[i]? : Option Value) with | some (Value.int _ n) => n | _ => (0 : Int))) = some v := hv
    rw [hn] at hv
    cases hv
    exact ⟨.int .i64 n, rfl, by simpa using hn⟩
  simp only [Go.Vm.conv, h1]
  try simp
set_option maxRecDepth 100000 in
/-- what an array of integers is -/
theorem ints_of {w : World} {base : Nat} {v : Value} (h : Value.okWide Try.prog w .any base 23 v) : ∃ cs : Array Value, v = .agg cs ∧ cs.size = 3 ∧ ∀ i, i < 3 → ∃ n, cs[i]? = some (.int .i64 n) := by
  unfold Value.okWide at h
  rw [Try.underlying23] at h
  obtain ⟨cs, rfl, hs, ts, ht, _, hk⟩ := h
  have e1 : Try.prog.cellsOf 23 = 3 := by kernel_rfl
  have e2 : Try.prog.cellTypes Try.prog.depth 23 = some (List.replicate 3 3) := by kernel_rfl
  rw [e2] at ht
  simp only [Option.some.injEq] at ht
  subst ht
  refine ⟨cs, rfl, by rw [hs, e1], fun i hi => ?_⟩
  have hlt : i < cs.size := by rw [hs, e1]; exact hi
  obtain ⟨u, hu, hok⟩ := hk i cs[i] (by simp [hlt])
  have hu3 : u = 3 := by
    rw [List.length_replicate, Nat.mod_eq_of_lt hi, List.getElem?_replicate, if_pos hi] at hu
    exact (Option.some.inj hu).symm
  subst hu3
  have hv : Value.okWide Try.prog w .any base 3 cs[i] := by
    unfold Value.okWide
    rw [Try.underlying3]
    exact hok
  obtain ⟨n, hn⟩ := okWide_int Try.underlying3 hv
  exact ⟨n, by rw [← hn]; simp [hlt]⟩
theorem walk (w : World) (q : Nat → Int) (v_q : Value) (h_q : ∀ ρ, Go.Vm.conv ρ (.agg (SVA q)) = some v_q) (r : Nat → Int) (v_r : Value) (h_r : ∀ ρ, Go.Vm.conv ρ (.agg (SVA r)) = some v_r) (u1 : Int) (w_u1 : (Lit.int .i64 u1).wf = true) (u2 : Int) (w_u2 : (Lit.int .i64 u2).wf = true) (v_l : Value) (s_l : Src) (l : List Int) (cap_l : Nat) (hk_l : s_l.ks = [.int .i64]) (ha_l : s_l.ac = .ints l) (hs_l : s_l.lies w) (hn_l : s_l.at_ = none → l.length = 0) (hc_l : l.length ≤ cap_l) (hv_l : v_l = s_l.val cap_l) (hm_l : l.length ≤ maxLen) (w_l : ∀ n ∈ l, (Lit.int .i64 n).wf = true) :
    Calls Try.prog 3 #[v_q, v_r, .int .i64 u1, .int .i64 u2, v_l] w fun e w' => e = .returned (.bool true) ∧ Below w.heap.size w w' := by
  obtain ⟨at_l, ks_l, ac_l⟩ := s_l
  simp only [] at hk_l ha_l
  subst hk_l ha_l
  have h_l : l.length ≤ 9223372036854775807 := by unfold maxLen at hm_l; omega
  have b_u1 := w_u1
  simp [Lit.wf, IntKind.min, IntKind.max, IntKind.signed, IntKind.bits] at b_u1
  have b_u2 := w_u2
  simp [Lit.wf, IntKind.min, IntKind.max, IntKind.signed, IntKind.bits] at b_u2
  exact top_run (by kernel_rfl) (by kernel_rfl) (T := [7]) (fun f hf w => by
      rcases List.mem_cons.1 hf with e | e
      · subst e; exact head w
      · exact (List.not_mem_nil e).elim) (l := [⟨at_l, [.int .i64], .ints l⟩]) (args := [.agg (SV q), .agg (SV r), .int .i64 u1, .int .i64 u2, .slc 0 1 0 l.length]) («as» := [.agg (SVA q), .agg (SVA r), .int .i64 u1, .int .i64 u2, Src.av 0 cap_l ⟨at_l, [.int .i64], .ints l⟩]) (cargs := [v_q, v_r, .int .i64 u1, .int .i64 u2, v_l]) w
    (fun s h => by
      rcases List.mem_cons.1 h with e | h
      · subst e; exact hs_l
      · exact (List.not_mem_nil h).elim)
    (Cvs.cons (SV_cv q) (Cvs.cons (SV_cv r) (Cvs.cons mk_int (Cvs.cons mk_int (Cvs.cons (src_cv (s := ⟨at_l, [.int .i64], .ints l⟩) rfl 1 hc_l hn_l) Cvs.nil)))))
    (by simp only [Go.Vm.convs, h_q, h_r]; try simp only [Go.Vm.conv]; rw [src_conv (j := 0) (s := ⟨at_l, [.int .i64], .ints l⟩) rfl, hv_l])
    (law3 (q 0) (q 1) (q 2) (r 0) (r 1) (r 2) u1 u2 _ h_l)

set_option maxRecDepth 100000 in
theorem lifted (os : Os) (started : os.Started) (H : Type) (enc : TypeId × Value → H) :
    ReturnsInHanded {} Try.checked os 3 .any (Rows.quotMatchesReferenceSpec.pre6 enc Try.prog Try.f3 Rows.quotMatchesReferenceRow.domain false) (Rows.quotMatchesReferenceSpec.post enc Try.prog Try.f3 false true false false) := by
  refine returnsInHanded_of_change (C := Try.checked) own started (by kernel_rfl) Try.func3
    (ChangeSpec.witness6 (enc := enc) (C := Try.checked) false ⟨#[], #[.agg (Array.replicate 3 (.int .i64 0)), .agg (Array.replicate 3 (.int .i64 0)), .int .i64 0, .int .i64 0, .slice none 0 0], []⟩ 8 (by kernel_rfl) (by kernel_rfl) (by kernel_rfl) (by kernel_rfl)) ?_
  intro W base args ds gs before hval0 hW hcnd _
  have hval : ∀ (j : Nat) t v, Try.f3.params[j]? = some t → args[j]? = some v → Value.okWide Try.prog W .any base t v := hval0
  have hW' := hW
  obtain ⟨p, q, hA0, hV, rfl, hfz, hnd⟩ := hW
  have hA : DataW.TrodAll enc Try.prog W 0 (fun _ => true) true Try.f3.params.toList args.toList ds p := hA0
  rw [Try.params3] at hA hval
  obtain ⟨v0, vs0, d0, ds0, p0, q0, hargs, rfl, rfl, h0, r0⟩ := trodAll_cons hA
  obtain ⟨v1, vs1, d1, ds1, p1, q1, rfl, rfl, rfl, h1, r1⟩ := trodAll_cons r0
  obtain ⟨v2, vs2, d2, ds2, p2, q2, rfl, rfl, rfl, h2, r2⟩ := trodAll_cons r1
  obtain ⟨v3, vs3, d3, ds3, p3, q3, rfl, rfl, rfl, h3, r3⟩ := trodAll_cons r2
  obtain ⟨v4, vs4, d4, ds4, p4, q4, rfl, rfl, rfl, h4, r4⟩ := trodAll_cons r3
  obtain ⟨rfl, rfl, rfl⟩ := trodAll_nil r4
  obtain rfl : args = #[v0, v1, v2, v3, v4] := by cases args; simp_all
  obtain ⟨rfl, rfl⟩ := trodVars_none hV
  obtain ⟨cs_q, rfl, hz_q, hc_q⟩ := ints_of (hval 0 23 v0 rfl rfl)
  obtain ⟨q, h_q⟩ := arr_of cs_q hz_q hc_q
  have hlt0 : ∀ x ∈ p0, x.block < W.heap.size := fun x hx => by simpa using hW'.lt x (by simp [hx])
  obtain ⟨cs_r, rfl, hz_r, hc_r⟩ := ints_of (hval 1 23 v1 rfl rfl)
  obtain ⟨r, h_r⟩ := arr_of cs_r hz_r hc_r
  have hlt1 : ∀ x ∈ p1, x.block < W.heap.size := fun x hx => by simpa using hW'.lt x (by simp [hx])
  obtain ⟨u1, rfl, rfl, rfl, w_u1⟩ := open_int Try.underlying3 (hval 2 3 v2 rfl rfl) h2
  obtain ⟨u2, rfl, rfl, rfl, w_u2⟩ := open_int Try.underlying3 (hval 3 3 v3 rfl rfl) h3
  obtain ⟨s_l, l, cap_l, hk_l, ha_l, hs_l, hn_l, hc_l, hv_l, hm_l, w_l⟩ := Go.Vm2.open_list Try.underlying24 Try.underlying3 (by kernel_rfl) (hval 4 24 v4 rfl rfl) h4
  have hlt4 : ∀ x ∈ p4, x.block < W.heap.size := fun x hx => by simpa using hW'.lt x (by simp [hx])
  clear hA0 hval0
  refine (walk W q (.agg cs_q) h_q r (.agg cs_r) h_r u1 w_u1 u2 w_u2 v4 s_l l cap_l hk_l ha_l hs_l hn_l hc_l hv_l hm_l w_l).mono fun e W' ⟨he, hg⟩ => ?_
  subst he
  exact ⟨_, rfl, _, _, _, [], _, [], hW', trodAll_cons_mk (shut_bool Try.underlying4 _) trodAll_mk0, (trodAll_cons_mk (Below.trod laidOut (by kernel_rfl) (of_decide_eq_true (by kernel_rfl)) h0 hg hlt0) (trodAll_cons_mk (Below.trod laidOut (by kernel_rfl) (of_decide_eq_true (by kernel_rfl)) h1 hg hlt1) (trodAll_cons_mk (shut_int Try.underlying3 w_u1) (trodAll_cons_mk (shut_int Try.underlying3 w_u2) (trodAll_cons_mk (Below.trod laidOut (by kernel_rfl) (of_decide_eq_true (by kernel_rfl)) h4 hg hlt4) trodAll_mk0))))), rfl, hg.frame _, fun h => by cases h⟩

theorem over : Rows.quotMatchesReferenceRow.holds Try.pinned (OpenSpec.ofChange Rows.quotMatchesReferenceSpec) :=
  OpenClaim.holds_of_wide 3 Try.f3 rfl rfl rfl rfl rfl rfl rfl ⟨rfl, rfl, rfl, rfl, rfl⟩ rfl rfl rfl rfl rfl (by kernel_rfl) Try.func3 (by kernel_rfl)
    (of_decide_eq_true (by kernel_rfl)) (by unfold Func.isWrapper; first | (rw [if_pos (by decide +kernel)]; kernel_rfl) | (rw [if_neg (by decide +kernel)]; exact ⟨rfl, rfl⟩))
    (fun os started H enc _ => lifted os started H enc)

/-- the statement -/
theorem proved : Rows.QuotMatchesReferenceSaid :=
  over
#print axioms proved
end Go.Proofs.Ytpodfpoaplnheaa.quotMatchesReference
