/-
  Trees of nodes and selectors: contracts of packages tree, match and selector, and of their reference. No conditions beyond those that its theorems name.
-/
import Derived.Test.YtmdobpjkcheneaaRows
import Derived.Test.YtmdobpjkcheneaaVwOpen2
import Derived.Test.YtmdobpjkcheneaaVwRules7
import Derived.Test.YtmdobpjkcheneaaVmFast3
import Derived.WalkKit
import Derived.ProofKit
import Derived.OpenShut
import Derived.Carry
import Derived.Test.YtmdobpjkcheneaaHead
import Derived.Laws.RangeAny
import Derived.Test.YtmdobpjkcheneaaVwRules8
import Derived.Test.YtmdobpjkcheneaaTreA
namespace Go.Proofs.Ytmdobpjkcheneaa.selectorBegins
open Go.ChangeShapes Go.WideShapes Go.ChangeAt Go.RowKit
open Go.Vm (Facts Val Sound)
open Go.Vm2
set_option linter.unusedVariables false
set_option linter.unusedSectionVars false

set_option maxRecDepth 100000
/-- the index of a parent -/
def pr (l : Rws) (i : Nat) : Nat := fi l (np l i) i
def Pa (l : Rws) (i : Nat) : Prop := (i = 0 → np l 0 = 0 ∧ nk l 0 = 1) ∧ (0 < i → pr l i < i ∧ St (nk l i) (nk l (pr l i)))
instance decPa (l : Rws) (i : Nat) : Decidable (Pa l i) := by unfold Pa; infer_instance
def ds (l : Rws) : Nat → List Int
  | 0 => []
  | k + 1 => ds l k ++ [if k = 0 then 1 else (ds l k).getD (pr l k) 0 + 1]
theorem ds_len (l : Rws) : ∀ k, (ds l k).length = k
  | 0 => rfl
  | k + 1 => by show (ds l k ++ [_]).length = k + 1; rw [List.length_append, ds_len l k]; rfl
def dp (l : Rws) (i : Nat) : Int := (ds l (i + 1)).getD i 0
theorem ds_get (l : Rws) : ∀ k i, i < k → (ds l k).getD i 0 = dp l i
  | 0, i, h => by omega
  | k + 1, i, h => by
    by_cases c : i = k
    · subst c; rfl
    · show (ds l k ++ [_]).getD i 0 = _
      rw [List.getD_eq_getElem?_getD, List.getElem?_append_left (by rw [ds_len]; omega), ← List.getD_eq_getElem?_getD]
      exact ds_get l k i (by omega)
theorem ds_bd (l : Rws) : ∀ k i, 0 ≤ (ds l k).getD i 0 ∧ (ds l k).getD i 0 ≤ (k : Int)
  | 0, i => by show 0 ≤ (([] : List Int).getD i 0) ∧ _; simp [ds]
  | k + 1, i => by
    show 0 ≤ (ds l k ++ [_]).getD i 0 ∧ (ds l k ++ [_]).getD i 0 ≤ _
    have ih := ds_bd l k
    rcases Nat.lt_trichotomy i k with c | c | c
    · rw [List.getD_eq_getElem?_getD, List.getElem?_append_left (by rw [ds_len]; omega), ← List.getD_eq_getElem?_getD]
      have := ih i; omega
    · rw [List.getD_eq_getElem?_getD, List.getElem?_append_right (by rw [ds_len]; omega), ds_len, c, Nat.sub_self]
      show 0 ≤ (if k = 0 then (1 : Int) else _) ∧ (if k = 0 then (1 : Int) else _) ≤ _
      have := ih (pr l k)
      split <;> omega
    · rw [List.getD_eq_getElem?_getD, List.getElem?_eq_none (by rw [List.length_append, ds_len]; show k + 1 ≤ i; omega)]
      show (0 : Int) ≤ 0 ∧ (0 : Int) ≤ _
      omega
theorem dp_suc {l : Rws} {i : Nat} (h : 0 < i) (hp : pr l i < i) : dp l i = dp l (pr l i) + 1 := by
  have e : dp l i = (ds l i ++ [if i = 0 then 1 else (ds l i).getD (pr l i) 0 + 1]).getD i 0 := rfl
  rw [e, List.getD_eq_getElem?_getD, List.getElem?_append_right (by rw [ds_len]; omega), ds_len, Nat.sub_self]
  show (if i = 0 then (1 : Int) else (ds l i).getD (pr l i) 0 + 1) = _
  rw [if_neg (by omega), ds_get l i _ hp]
theorem dp_zero (l : Rws) : dp l 0 = 1 := rfl
def dq (l : Rws) : List Int × Bool := if ∀ i, i < l.length → Pa l i then (ds l l.length, true) else ([], false)
theorem dq_ok {l : Rws} (h : ∀ i, i < l.length → Pa l i) : dq l = (ds l l.length, true) := if_pos h
theorem dq_no {l : Rws} {i : Nat} (hi : i < l.length) (h : ¬ Pa l i) : dq l = ([], false) := if_neg (fun q => h (q i hi))
set_option maxHeartbeats 4000000 in
theorem depths_ok (l : Rws) (hn : l.length ≤ 4000) : SemF Try.prog 43 [.slc 0 5 0 l.length] ⟨1, 1, [(0, .arr [.int .i64, .int .i64, .int .i64, .int .i64, .str] .rd (.recs l))]⟩ (fun v h' => v = .tup [.grw 1 (dq l).1.length, .test (dq l).2] ∧ h' = ⟨2, 1, [(1, .arr [.int .i64] .grow (.ints (dq l).1))]⟩) := by
  refine SemF.ret ?_
  refine enter tt_ok Try.func43 (nt := 64) (cd := body Try.f43) rfl rfl rfl rfl ?_
  intro _
  refine loop2 tt_ok [5, 4] [1] 2 (fun k : { k : Nat // k ≤ l.length ∧ ∀ i, i < k → Pa l i } => [(5, .int .i64 (k.1 : Nat)), (4, .grw 1 (ds l k.1).length)]) (fun k => [(1, .arr [.int .i64] .grow (.ints (ds l k.1)))]) (fun k => l.length - k.1) ⟨0, by omega, fun i h => by omega⟩ ?_
  intro _
  refine ⟨⟨th [(1, none)] 2, rfl, rfl, rfl, rfl, rfl, rfl, ?_, ?_⟩, ?_⟩
  · (repeat' first | exact trivial | exact rfl | refine And.intro ?_ ?_)
  · (repeat' first | exact trivial | exact rfl | refine And.intro ?_ ?_)
  intro ⟨k, hk, hm⟩
  have z : 0 + k = k := Nat.zero_add k
  have hdl := ds_len l k
  intro _; refine ⟨fun g => ?_, fun g => ?_⟩
  rotate_left
  · have hkl := of_decide_eq_false (show decide ((k : Int) < (l.length : Int)) = false from g)
    obtain rfl : k = l.length := by omega
    have eq := dq_ok hm
    intro _
    refine ⟨[(1, some 1)], .tup [.grw 1 (dq l).1.length, .test (dq l).2], ⟨2, 1, [(1, .arr [.int .i64] .grow (.ints (dq l).1))]⟩, rfl, rfl, rfl, rfl, ?_, ?_, ⟨rfl, rfl⟩⟩
    · rw [eq]; (repeat' first | exact trivial | exact rfl | refine And.intro ?_ ?_)
    · rw [eq]; (repeat' first | exact trivial | exact rfl | refine And.intro ?_ ?_)
  have hkl := of_decide_eq_true (show decide ((k : Int) < (l.length : Int)) = true from g)
  have i1 : 0 ≤ (k : Int) ∧ (k : Int) < (l.length : Int) := by omega
  have i2 : 0 + (k : Int).toNat < l.length := by omega
  have ek := (wrap_nat k (by omega)).symm
  intro _; refine ⟨fun g => ?_, fun g => ?_⟩
  · have g0 : (k : Int) = 0 := eq_of_beq (show ((k : Int) == 0) = true from g)
    obtain rfl : k = 0 := by omega
    have j1 : (0 : Int) ≤ 0 ∧ (0 : Int) < (l.length : Int) := by omega
    have j2 : 0 + (0 : Int).toNat < l.length := by show 0 + 0 < l.length; omega
    intro _; refine ⟨rfl, ?_⟩
    intro _; refine ⟨fun g3 => by simp at g3, fun _ => ?_⟩
    refine ⟨⟨rfl, by show (ds l 0).length + 1 ≤ _; omega, by show ((ds l 0).length + 1) * 8 ≤ _; omega⟩, ?_⟩
    intro _; refine ⟨j1, ?_⟩
    intro _; refine ⟨j2, ?_⟩
    intro _; refine ⟨fun g => ?_, fun g => ?_⟩
    · have g := bne_iff_ne.1 (show (np l 0 != 0) = true from g)
      have eq := dq_no (i := 0) (by omega) (fun h => g (h.1 rfl).1)
      intro _
      refine ⟨[(1, none)], .tup [.grw 1 (dq l).1.length, .test (dq l).2], ⟨2, 1, [(1, .arr [.int .i64] .grow (.ints (dq l).1))]⟩, rfl, rfl, rfl, rfl, ?_, ?_, ⟨rfl, rfl⟩⟩
      · rw [eq]; (repeat' first | exact trivial | exact rfl | refine And.intro ?_ ?_)
      · rw [eq]; (repeat' first | exact trivial | exact rfl | refine And.intro ?_ ?_)
    have gp : np l 0 = 0 := by
      have g : (np l 0 != 0) = false := g
      simpa using g
    intro _; refine ⟨j1, ?_⟩
    intro _; refine ⟨j2, ?_⟩
    intro _; refine ⟨fun g => ?_, fun g => ?_⟩
    · have g := bne_iff_ne.1 (show (nk l 0 != 1) = true from g)
      have eq := dq_no (i := 0) (by omega) (fun h => g (h.1 rfl).2)
      intro _
      refine ⟨[(1, none)], .tup [.grw 1 (dq l).1.length, .test (dq l).2], ⟨2, 1, [(1, .arr [.int .i64] .grow (.ints (dq l).1))]⟩, rfl, rfl, rfl, rfl, ?_, ?_, ⟨rfl, rfl⟩⟩
      · rw [eq]; (repeat' first | exact trivial | exact rfl | refine And.intro ?_ ?_)
      · rw [eq]; (repeat' first | exact trivial | exact rfl | refine And.intro ?_ ?_)
    have gk : nk l 0 = 1 := by
      have g : (nk l 0 != 1) = false := g
      simpa using g
    refine ⟨⟨1, by omega, fun i hi => ?_⟩, by show l.length - 1 < l.length - 0; omega, th [(1, some 3)] 2, rfl, rfl, rfl, rfl, rfl, rfl, ?_, ?_⟩
    · obtain rfl : i = 0 := by omega
      exact ⟨fun _ => ⟨gp, gk⟩, fun h => by omega⟩
    · (repeat' first | exact trivial | exact rfl | refine And.intro ?_ ?_)
    · (repeat' first | exact trivial | exact rfl | refine And.intro ?_ ?_)
  have gk0 : ¬ k = 0 := fun e => by
    have g : ((k : Int) == 0) = false := g
    rw [e] at g; cases g
  intro _; refine ⟨show (0 : Int) ≤ 0 ∧ (0 : Int) ≤ (k : Int) ∧ (k : Int) ≤ (l.length : Int) ∧ ((0 : Int) < (l.length : Int) ∨ (0 : Int) = 0) by omega, ?_⟩
  intro _; refine ⟨i1, ?_⟩
  intro _; refine ⟨i2, ?_⟩
  intro _; refine Or.inl ?_
  intro _
  refine call_pure [(0, some 0)] (index_ok l (np l k) k hk (by omega)) rfl rfl rfl ?_ ?_ ?_
  · (repeat' first | exact trivial | exact rfl | refine And.intro ?_ ?_)
  · (repeat' first | exact trivial | exact rfl | refine And.intro ?_ ?_)
    show np l k = np l (0 + k)
    rw [z]
  intro v hv _
  subst hv
  intro _; refine ⟨by kernel_rfl, ?_⟩
  by_cases hp : pr l k < k
  rotate_left
  · have ei : ixv l (np l k) k = -1 := if_neg hp
    have eq := dq_no (i := k) (by omega) (fun h => hp (h.2 (by omega)).1)
    rw [ei]
    intro _; refine ⟨fun _ => ?_, fun g => absurd g (by decide)⟩
    intro _; refine ⟨by kernel_rfl, ?_⟩
    intro _
    refine ⟨[(1, none)], .tup [.grw 1 (dq l).1.length, .test (dq l).2], ⟨2, 1, [(1, .arr [.int .i64] .grow (.ints (dq l).1))]⟩, rfl, rfl, rfl, rfl, ?_, ?_, ⟨rfl, rfl⟩⟩
    · rw [eq]; (repeat' first | exact trivial | exact rfl | refine And.intro ?_ ?_)
    · rw [eq]; (repeat' first | exact trivial | exact rfl | refine And.intro ?_ ?_)
  have ei : ixv l (np l k) k = ((pr l k : Nat) : Int) := if_pos hp
  rw [ei]
  intro _; refine ⟨fun g => by have g := of_decide_eq_true (show decide (((pr l k : Nat) : Int) < 0) = true from g); omega, fun _ => ?_⟩
  intro _; refine ⟨i1, ?_⟩
  intro _; refine ⟨i2, ?_⟩
  intro _; refine ⟨show 0 ≤ ((pr l k : Nat) : Int) ∧ ((pr l k : Nat) : Int) < (l.length : Int) by omega, ?_⟩
  intro _; refine ⟨show 0 + ((pr l k : Nat) : Int).toNat < l.length by omega, ?_⟩
  intro _; refine Or.inl ?_
  intro _
  refine call_pure [] (stands_ok (nk l k) (nk l (pr l k))) rfl rfl rfl ?_ ?_ ?_
  · (repeat' first | exact trivial | exact rfl | refine And.intro ?_ ?_)
  · (repeat' first | exact trivial | exact rfl | refine And.intro ?_ ?_)
    show nk l k = nk l (0 + k)
    rw [z]
    show nk l (pr l k) = nk l (0 + pr l k)
    rw [Nat.zero_add]
  intro v hv _
  subst hv
  intro _; refine ⟨by kernel_rfl, ?_⟩
  intro _; refine ⟨fun g => ?_, fun g => ?_⟩
  · have g : (!decide (St (nk l k) (nk l (pr l k)))) = true := g
    rw [Bool.not_eq_true'] at g
    have g := of_decide_eq_false g
    have eq := dq_no (i := k) (by omega) (fun h => g (h.2 (by omega)).2)
    intro _
    refine ⟨[(1, none)], .tup [.grw 1 (dq l).1.length, .test (dq l).2], ⟨2, 1, [(1, .arr [.int .i64] .grow (.ints (dq l).1))]⟩, rfl, rfl, rfl, rfl, ?_, ?_, ⟨rfl, rfl⟩⟩
    · rw [eq]; (repeat' first | exact trivial | exact rfl | refine And.intro ?_ ?_)
    · rw [eq]; (repeat' first | exact trivial | exact rfl | refine And.intro ?_ ?_)
  have g : (!decide (St (nk l k) (nk l (pr l k)))) = false := g
  rw [Bool.not_eq_false'] at g
  have gS := of_decide_eq_true g
  have hb := ds_bd l k (pr l k)
  intro _; refine ⟨show 0 ≤ ((pr l k : Nat) : Int) ∧ ((pr l k : Nat) : Int) < ((ds l k).length : Int) by omega, ?_⟩
  intro _; refine ⟨show ((pr l k : Nat) : Int).toNat < (ds l k).length by omega, ?_⟩
  intro _; refine ⟨rfl, ?_⟩
  intro _; refine ⟨fun g3 => by simp at g3, fun _ => ?_⟩
  refine ⟨⟨rfl, by show (ds l k).length + 1 ≤ _; omega, by show ((ds l k).length + 1) * 8 ≤ _; omega⟩, ?_⟩
  have ed : ds l (k + 1) = ds l k ++ [IntKind.i64.wrap ((ds l k).getD (pr l k) 0 + 1)] := by
    rw [wrapS _ ⟨by omega, by omega⟩]
    show ds l k ++ [if k = 0 then 1 else (ds l k).getD (pr l k) 0 + 1] = _
    rw [if_neg gk0]
  refine ⟨⟨k + 1, by omega, fun i hi => ?_⟩, by show l.length - (k + 1) < l.length - k; omega, th [(1, some 3)] 2, rfl, rfl, rfl, rfl, rfl, rfl, ?_, ?_⟩
  · by_cases c : i = k
    · subst c; exact ⟨fun e => absurd e gk0, fun _ => ⟨hp, gS⟩⟩
    · exact hm i (by omega)
  · (repeat' first | exact trivial | exact rfl | refine And.intro ?_ ?_)
    · exact ek
    · show (ds l (k + 1)).length = (ds l k).length + 1
      rw [ds_len, ds_len]
  · (repeat' first | exact trivial | exact rfl | refine And.intro ?_ ?_)
    exact ed
def Na (l : Rws) (i : Nat) : Prop := Nd (ni l i) (np l i) (nk l i) (nc l i) (nt l i) ∧ fi l (ni l i) i = i
instance decNa (l : Rws) (i : Nat) : Decidable (Na l i) := inferInstanceAs (Decidable (_ ∧ _))
/-- a tree -/
def RV (l : Rws) : Prop := (1 ≤ l.length ∧ l.length ≤ 4000) ∧ (∀ i, i < l.length → Na l i) ∧ (∀ i, i < l.length → Pa l i) ∧ ∀ i, i < l.length → dp l i ≤ 30
instance decRV (l : Rws) : Decidable (RV l) := inferInstanceAs (Decidable (_ ∧ _))
set_option maxHeartbeats 4000000 in
theorem tree_ok (l : Rws) (hl : l.length ≤ 9223372036854775807) (hs : ∀ i, i < l.length → (nt l i).length ≤ 9223372036854775807) : SemF Try.prog 32 [.slc 0 5 0 l.length] ⟨1, 1, [(0, .arr [.int .i64, .int .i64, .int .i64, .int .i64, .str] .rd (.recs l))]⟩ (fun v _ => v = .test (decide (RV l)) ∧ nameless v = true) := by
  refine SemF.test ?_
  refine enter tt_ok Try.func32 (nt := 58) (cd := body Try.f32) rfl rfl rfl rfl ?_
  intro _; refine ⟨fun g => ?_, fun g => ?_⟩
  · have g := of_decide_eq_true (show decide ((l.length : Int) < 1) = true from g)
    intro _
    exact ⟨false, .inl rfl, by rw [decide_eq_false (fun h : RV l => by have := h.1.1; omega)], rfl⟩
  have n1 := of_decide_eq_false (show decide ((l.length : Int) < 1) = false from g)
  intro _; refine ⟨fun g => ?_, fun g => ?_⟩
  · have g := of_decide_eq_true (show decide ((l.length : Int) > 4000) = true from g)
    intro _
    exact ⟨false, .inl rfl, by rw [decide_eq_false (fun h : RV l => by have := h.1.2; omega)], rfl⟩
  have n2 := of_decide_eq_false (show decide ((l.length : Int) > 4000) = false from g)
  intro _
  refine loop2 tt_ok [3] [] 1 (fun k : { k : Nat // k ≤ l.length ∧ ∀ i, i < k → Na l i } => [(3, .int .i64 (k.1 : Nat))]) (fun _ => []) (fun k => l.length - k.1) ⟨0, by omega, fun i h => by omega⟩ ?_
  intro _
  refine ⟨⟨th [] 1, rfl, rfl, rfl, rfl, rfl, rfl, ?_, ?_⟩, ?_⟩
  · (repeat' first | exact trivial | exact rfl | refine And.intro ?_ ?_)
  · (repeat' first | exact trivial | exact rfl | refine And.intro ?_ ?_)
  intro ⟨k, hk, hm⟩
  have z : 0 + k = k := Nat.zero_add k
  intro _; refine ⟨fun g => ?_, fun g => ?_⟩
  rotate_left
  · have hkl := of_decide_eq_false (show decide ((k : Int) < (l.length : Int)) = false from g)
    obtain rfl : k = l.length := by omega
    intro _
    refine call_new [(0, some 0)] (depths_ok l (by omega)) rfl rfl rfl rfl ?_ ?_ ?_
    · (repeat' first | exact trivial | exact rfl | refine And.intro ?_ ?_)
    · (repeat' first | exact trivial | exact rfl | refine And.intro ?_ ?_)
    intro v h' hv
    obtain ⟨rfl, rfl⟩ := hv
    refine ⟨[(1, some 1)], 2, [(1, .arr [.int .i64] .grow (.ints (dq l).1))], .tup [.grw 1 (dq l).1.length, .test (dq l).2], rfl, rfl, rfl, rfl, rfl, ?_, ?_, ?_⟩
    · (repeat' first | exact trivial | exact rfl | refine And.intro ?_ ?_)
    · (repeat' first | exact trivial | exact rfl | refine And.intro ?_ ?_)
    intro _
    by_cases hP : ∀ i, i < l.length → Pa l i
    rotate_left
    · have eq : dq l = ([], false) := if_neg hP
      rw [eq]
      refine loop_step tt_ok ?_
      intro _; refine ⟨fun g => absurd g (by decide), fun _ => ?_⟩
      intro _
      exact ⟨false, .inr rfl, by rw [decide_eq_false (fun h : RV l => hP h.2.2.1)], rfl⟩
    rw [dq_ok hP]
    refine loop2 tt_ok [7] [] 2 (fun k : { k : Nat // k ≤ l.length ∧ ∀ i, i < k → dp l i ≤ 30 } => [(7, .int .i64 (k.1 : Nat))]) (fun _ => []) (fun k => l.length - k.1) ⟨0, by omega, fun i h => by omega⟩ ?_
    intro _
    refine ⟨⟨th [] 2, rfl, rfl, rfl, rfl, rfl, rfl, ?_, ?_⟩, ?_⟩
    · (repeat' first | exact trivial | exact rfl | refine And.intro ?_ ?_)
    · (repeat' first | exact trivial | exact rfl | refine And.intro ?_ ?_)
    intro ⟨j, hj, hd⟩
    have hdl := ds_len l l.length
    intro _; refine ⟨fun g => ?_, fun g => ?_⟩
    rotate_left
    · have hjl := of_decide_eq_false (show decide ((j : Int) < ((ds l l.length).length : Int)) = false from g)
      obtain rfl : j = l.length := by omega
      intro _
      exact ⟨true, .inr rfl, by rw [decide_eq_true (show RV l from ⟨⟨by omega, by omega⟩, hm, hP, hd⟩)], rfl⟩
    have hjl := of_decide_eq_true (show decide ((j : Int) < ((ds l l.length).length : Int)) = true from g)
    intro _; refine ⟨show 0 ≤ (j : Int) ∧ (j : Int) < ((ds l l.length).length : Int) by omega, ?_⟩
    intro _; refine ⟨show (j : Int).toNat < (ds l l.length).length by omega, ?_⟩
    have ed : (ds l l.length).getD (j : Int).toNat 0 = dp l j := ds_get l l.length j (by omega)
    intro _; refine ⟨fun g => ?_, fun g => ?_⟩
    · have g := of_decide_eq_true (show decide ((ds l l.length).getD (j : Int).toNat 0 > 30) = true from g)
      rw [ed] at g
      intro _
      exact ⟨false, .inl rfl, by rw [decide_eq_false (fun h : RV l => by have := h.2.2.2 j (by omega); omega)], rfl⟩
    have g := of_decide_eq_false (show decide ((ds l l.length).getD (j : Int).toNat 0 > 30) = false from g)
    rw [ed] at g
    refine ⟨⟨j + 1, by omega, fun i hi => ?_⟩, by show l.length - (j + 1) < l.length - j; omega, th [] 2, rfl, rfl, rfl, rfl, rfl, rfl, ?_, ?_⟩
    · by_cases c : i = j
      · subst c; omega
      · exact hd i (by omega)
    · (repeat' first | exact trivial | exact rfl | refine And.intro ?_ ?_)
      exact (wrap_nat j (by omega)).symm
    · (repeat' first | exact trivial | exact rfl | refine And.intro ?_ ?_)
  have hkl := of_decide_eq_true (show decide ((k : Int) < (l.length : Int)) = true from g)
  have i1 : 0 ≤ (k : Int) ∧ (k : Int) < (l.length : Int) := by omega
  have i2 : 0 + (k : Int).toNat < l.length := by omega
  intro _; refine ⟨i1, ?_⟩
  intro _; refine ⟨i2, ?_⟩
  intro _
  refine call_pure [] (rnode_ok (ni l (0 + k)) (np l (0 + k)) (nk l (0 + k)) (nc l (0 + k)) (nt l (0 + k)) (by rw [z]; exact hs k (by omega))) rfl rfl rfl ?_ ?_ ?_
  · (repeat' first | exact trivial | exact rfl | refine And.intro ?_ ?_)
  · (repeat' first | exact trivial | exact rfl | refine And.intro ?_ ?_)
  intro v hv _
  subst hv
  intro _; refine ⟨fun g => ?_, fun g => ?_⟩
  · have g : (!decide (Nd (ni l (0 + k)) (np l (0 + k)) (nk l (0 + k)) (nc l (0 + k)) (nt l (0 + k)))) = true := g
    rw [z, Bool.not_eq_true'] at g
    have g := of_decide_eq_false g
    intro _; refine ⟨by kernel_rfl, ?_⟩
    intro _
    exact ⟨false, .inl rfl, by rw [decide_eq_false (fun h : RV l => g (h.2.1 k (by omega)).1)], rfl⟩
  have g : (!decide (Nd (ni l (0 + k)) (np l (0 + k)) (nk l (0 + k)) (nc l (0 + k)) (nt l (0 + k)))) = false := g
  rw [z, Bool.not_eq_false'] at g
  have gN := of_decide_eq_true g
  intro _; refine ⟨show (0 : Int) ≤ 0 ∧ (0 : Int) ≤ (k : Int) ∧ (k : Int) ≤ (l.length : Int) ∧ ((0 : Int) < (l.length : Int) ∨ (0 : Int) = 0) by omega, ?_⟩
  intro _; refine ⟨i1, ?_⟩
  intro _; refine ⟨i2, ?_⟩
  intro _; refine Or.inl ?_
  intro _
  refine call_pure [(0, some 0)] (index_ok l (ni l k) k hk (by omega)) rfl rfl rfl ?_ ?_ ?_
  · (repeat' first | exact trivial | exact rfl | refine And.intro ?_ ?_)
  · (repeat' first | exact trivial | exact rfl | refine And.intro ?_ ?_)
    show ni l k = ni l (0 + k)
    rw [z]
  intro v hv _
  subst hv
  intro _; refine ⟨by kernel_rfl, ?_⟩
  have hle := fi_le l (ni l k) k
  intro _; refine ⟨fun g => ?_, fun g => ?_⟩
  · have g := of_decide_eq_true (show decide (ixv l (ni l k) k ≥ 0) = true from g)
    intro _
    refine ⟨false, .inl rfl, ?_, rfl⟩
    rw [decide_eq_false (fun h : RV l => ?_)]
    have e := (h.2.1 k (by omega)).2
    unfold ixv at g
    rw [if_neg (by omega)] at g
    omega
  have g := of_decide_eq_false (show decide (ixv l (ni l k) k ≥ 0) = false from g)
  have hu : fi l (ni l k) k = k := by
    refine Nat.le_antisymm hle (Nat.le_of_not_lt fun c => g ?_)
    unfold ixv; rw [if_pos c]; omega
  refine ⟨⟨k + 1, by omega, fun i hi => ?_⟩, by show l.length - (k + 1) < l.length - k; omega, th [] 1, rfl, rfl, rfl, rfl, rfl, rfl, ?_, ?_⟩
  · by_cases c : i = k
    · subst c; exact ⟨gN, hu⟩
    · exact hm i (by omega)
  · (repeat' first | exact trivial | exact rfl | refine And.intro ?_ ?_)
    exact (wrap_nat k (by omega)).symm
  · (repeat' first | exact trivial | exact rfl | refine And.intro ?_ ?_)
theorem mfind_mput (a q : Int) (d : List D) : ∀ l : List (Int × List D), mfind (mput l a d) q = if a = q then some d else mfind l q
  | [] => by simp [mput, mfind]
  | e :: l => by
    simp only [mput]
    by_cases h : e.1 = a
    · rw [if_pos h]
      simp only [mfind]
      by_cases h2 : a = q
      · rw [if_pos h2, if_pos h2]
      · rw [if_neg h2, if_neg h2, if_neg (by omega)]
    · rw [if_neg h]
      simp only [mfind, mfind_mput a q d l]
      by_cases h2 : e.1 = q
      · rw [if_pos h2, if_pos h2, if_neg (by omega)]
      · rw [if_neg h2, if_neg h2]
def gm (l : Rws) : Nat → List (Int × List D)
  | 0 => []
  | k + 1 => mput (gm l k) (ni l k) [D.n (k : Nat)]
theorem gm_find {l : Rws} (id : Int) : ∀ k, (∀ i, i < k → fi l (ni l i) i = i) → mfind (gm l k) id = if fi l id k < k then some [D.n ((fi l id k : Nat) : Int)] else none
  | 0, _ => rfl
  | k + 1, h => by
    have ih := gm_find (l := l) id k (fun i hi => h i (by omega))
    have hk := h k (by omega)
    have hle := fi_le l id k
    show mfind (mput (gm l k) (ni l k) [D.n (k : Nat)]) id = _
    rw [mfind_mput, fi_suc]
    by_cases c : fi l id k < k
    · have hne : ¬ ni l k = id := fun e => by rw [e] at hk; omega
      rw [if_neg hne, ih, if_pos c, if_pos c, if_pos (by omega)]
    · rw [if_neg c]
      by_cases d : ni l k = id
      · rw [if_pos d, if_pos d, if_pos (by omega)]
      · rw [if_neg d, if_neg d, if_neg (by omega), ih, if_neg c]
def gd (l : Rws) : Nat → List Int
  | 0 => List.replicate l.length 0
  | k + 1 => if k = 0 then (gd l k).set k 1 else ((gd l k).set k 1).set k (((gd l k).set k 1).getD (pr l k) 0 + 1)
theorem gd_len (l : Rws) : ∀ k, (gd l k).length = l.length
  | 0 => List.length_replicate
  | k + 1 => by
    show (if k = 0 then (gd l k).set k 1 else ((gd l k).set k 1).set k (((gd l k).set k 1).getD (pr l k) 0 + 1)).length = _
    split <;> simp [gd_len l k]
theorem set_get {l : List Int} {i : Nat} {v : Int} (h : i < l.length) (k : Nat) : (l.set i v).getD k 0 = if i = k then v else l.getD k 0 := by
  rw [List.getD_eq_getElem?_getD, List.getD_eq_getElem?_getD, List.getElem?_set]
  by_cases e : i = k
  · subst e; rw [if_pos rfl, if_pos rfl, if_pos h]; rfl
  · rw [if_neg e, if_neg e]
theorem gd_get {l : Rws} : ∀ k, k ≤ l.length → (∀ i, i < k → Pa l i) → ∀ i, i < k → (gd l k).getD i 0 = dp l i
  | 0, _, _, i, hi => by omega
  | k + 1, hk, h, i, hi => by
    have ih := gd_get (l := l) k (by omega) (fun i hi => h i (by omega))
    have hl := gd_len l k
    show (if k = 0 then (gd l k).set k 1 else ((gd l k).set k 1).set k (((gd l k).set k 1).getD (pr l k) 0 + 1)).getD i 0 = _
    by_cases c : k = 0
    · subst c
      obtain rfl : i = 0 := by omega
      rw [if_pos rfl, set_get (by omega), if_pos rfl]; rfl
    · rw [if_neg c]
      have hp := ((h k (by omega)).2 (by omega)).1
      rw [set_get (by rw [List.length_set]; omega)]
      by_cases d : k = i
      · subst d
        rw [if_pos rfl, set_get (by omega), if_neg (by omega), ih _ hp, dp_suc (by omega) hp]
      · rw [if_neg d, set_get (by omega), if_neg d]
        exact ih i (by omega)
def Gk (l : Rws) (i : Nat) : Prop := (Na l i ∧ Pa l i) ∧ dp l i ≤ 30
theorem RV_of {l : Rws} (h1 : 1 ≤ l.length) (h2 : l.length ≤ 4000) (h : ∀ i, i < l.length → Gk l i) : RV l := ⟨⟨h1, h2⟩, fun i hi => (h i hi).1.1, fun i hi => (h i hi).1.2, fun i hi => (h i hi).2⟩
set_option maxHeartbeats 8000000 in
theorem valid2_ok (l : Rws) (hl : l.length ≤ 9223372036854775807) (hs : ∀ i, i < l.length → (nt l i).length ≤ 9223372036854775807) : SemF Try.prog 27 [.slc 0 5 0 l.length] ⟨1, 1, [(0, .arr [.int .i64, .int .i64, .int .i64, .int .i64, .str] .rd (.recs l))]⟩ (fun v _ => v = .test (decide (RV l)) ∧ nameless v = true) := by
  refine SemF.test ?_
  refine enter tt_ok Try.func27 (nt := 11) (cd := body Try.f27) rfl rfl rfl rfl ?_
  intro _
  refine enter tt_ok Try.func39 (nt := 128) (cd := body Try.f39) rfl rfl rfl rfl ?_
  intro _; refine ⟨fun g => ?_, fun g => ?_⟩
  · have g : (l.length : Int) = 0 := eq_of_beq (show ((l.length : Int) == 0) = true from g)
    intro _
    intro _
    exact ⟨false, .inl rfl, by rw [decide_eq_false (fun h : RV l => by have := h.1.1; omega)], rfl⟩
  have n1 : 1 ≤ l.length := by
    refine Nat.pos_of_ne_zero fun e => ?_
    have g : ((l.length : Int) == 0) = false := g
    rw [e] at g; cases g
  intro _; refine ⟨fun g => ?_, fun g => ?_⟩
  · have g := of_decide_eq_true (show decide ((l.length : Int) > 4000) = true from g)
    intro _
    intro _
    exact ⟨false, .inl rfl, by rw [decide_eq_false (fun h : RV l => by have := h.1.2; omega)], rfl⟩
  have n2 := of_decide_eq_false (show decide ((l.length : Int) > 4000) = false from g)
  intro _; refine ⟨⟨by omega, by omega, by show 8 * l.length ≤ _; omega⟩, ?_⟩
  intro _; refine ⟨rfl, ?_⟩
  intro _; refine ⟨by kernel_rfl, ?_⟩
  intro _
  refine loop2 tt_ok [30] [1, 2] 4 (fun k : { k : Nat // k ≤ l.length ∧ ∀ i, i < k → Gk l i } => [(30, .int .i64 (k.1 : Nat))]) (fun k => [(1, .map .i64 [.int .i64] false (gm l k.1)), (2, .arr [.int .i64] .own (.ints (gd l k.1)))]) (fun k => l.length - k.1) ⟨0, by omega, fun i h => by omega⟩ ?_
  intro _
  refine ⟨⟨th [] 4, rfl, rfl, rfl, rfl, rfl, rfl, ?_, ?_⟩, ?_⟩
  · (repeat' first | exact trivial | exact rfl | refine And.intro ?_ ?_)
  · (repeat' first | exact trivial | exact rfl | refine And.intro ?_ ?_)
  intro ⟨k, hk, hm⟩
  have z : 0 + k = k := Nat.zero_add k
  have hgl := gd_len l k
  have hu : ∀ i, i < k → fi l (ni l i) i = i := fun i hi => (hm i hi).1.1.2
  intro _; refine ⟨fun g => ?_, fun g => ?_⟩
  rotate_left
  · have hkl := of_decide_eq_false (show decide ((k : Int) < (l.length : Int)) = false from g)
    obtain rfl : k = l.length := by omega
    intro _
    intro _
    exact ⟨true, .inl rfl, by rw [decide_eq_true (RV_of n1 (by omega) hm)], rfl⟩
  have hkl := of_decide_eq_true (show decide ((k : Int) < (l.length : Int)) = true from g)
  have i1 : 0 ≤ (k : Int) ∧ (k : Int) < (l.length : Int) := by omega
  have i2 : 0 + (k : Int).toNat < l.length := by omega
  have ek := (wrap_nat k (by omega)).symm
  have hf1 := gm_find (l := l) (ni l k) k hu
  have hle := fi_le l (ni l k) k
  intro _; refine ⟨i1, ?_⟩
  intro _; refine ⟨i2, ?_⟩
  intro _; refine ⟨by kernel_rfl, ?_⟩
  intro _; refine ⟨fun g => ?_, fun g => ?_⟩
  · have g : (mfind (gm l k) (ni l (0 + k))).isSome = true := g
    rw [z, hf1] at g
    have c : fi l (ni l k) k < k := by
      refine Decidable.byContradiction fun c => ?_
      rw [if_neg c] at g; cases g
    intro _
    intro _
    exact ⟨false, .inl rfl, by rw [decide_eq_false (fun h : RV l => by have := (h.2.1 k (by omega)).2; omega)], rfl⟩
  have g : (mfind (gm l k) (ni l (0 + k))).isSome = false := g
  rw [z, hf1] at g
  have huk : fi l (ni l k) k = k := by
    refine Nat.le_antisymm hle (Nat.le_of_not_lt fun c => ?_)
    rw [if_pos c] at g; cases g
  have hu1 : ∀ i, i < k + 1 → fi l (ni l i) i = i := fun i hi => by
    by_cases c : i = k
    · subst c; exact huk
    · exact hu i (by omega)
  intro _
  refine call_pure [] (node_ok (ni l (0 + k)) (np l (0 + k)) (nk l (0 + k)) (nc l (0 + k)) (nt l (0 + k)) (by rw [z]; exact hs k (by omega))) rfl rfl rfl ?_ ?_ ?_
  · (repeat' first | exact trivial | exact rfl | refine And.intro ?_ ?_)
  · (repeat' first | exact trivial | exact rfl | refine And.intro ?_ ?_)
  intro v hv _
  subst hv
  intro _; refine ⟨fun g => ?_, fun g => ?_⟩
  · have g : (!decide (Nd (ni l (0 + k)) (np l (0 + k)) (nk l (0 + k)) (nc l (0 + k)) (nt l (0 + k)))) = true := g
    rw [z, Bool.not_eq_true'] at g
    have g := of_decide_eq_false g
    intro _
    intro _
    exact ⟨false, .inl rfl, by rw [decide_eq_false (fun h : RV l => g (h.2.1 k (by omega)).1)], rfl⟩
  have g : (!decide (Nd (ni l (0 + k)) (np l (0 + k)) (nk l (0 + k)) (nc l (0 + k)) (nt l (0 + k)))) = false := g
  rw [z, Bool.not_eq_false'] at g
  have gN := of_decide_eq_true g
  intro _; refine ⟨by kernel_rfl, ?_⟩
  intro _; refine ⟨i1, ?_⟩
  intro _; refine ⟨show (k : Int).toNat < (gd l k).length by omega, ?_⟩
  intro _; refine ⟨fun g => ?_, fun g => ?_⟩
  · have g0 : (k : Int) = 0 := eq_of_beq (show ((k : Int) == 0) = true from g)
    obtain rfl : k = 0 := by omega
    intro _; refine ⟨fun g => ?_, fun g => ?_⟩
    · have g := bne_iff_ne.1 (show (nk l (0 + 0) != 1) = true from g)
      intro _
      intro _
      exact ⟨false, .inl rfl, by rw [decide_eq_false (fun h : RV l => g ((h.2.2.1 0 (by omega)).1 rfl).2)], rfl⟩
    have gk : nk l 0 = 1 := by
      have g : (nk l (0 + 0) != 1) = false := g
      simpa using g
    intro _; refine ⟨fun g => ?_, fun g => ?_⟩
    · have g := bne_iff_ne.1 (show (np l (0 + 0) != 0) = true from g)
      intro _
      intro _
      exact ⟨false, .inl rfl, by rw [decide_eq_false (fun h : RV l => g ((h.2.2.1 0 (by omega)).1 rfl).1)], rfl⟩
    have gp : np l 0 = 0 := by
      have g : (np l (0 + 0) != 0) = false := g
      simpa using g
    refine ⟨⟨1, by omega, fun i hi => ?_⟩, by show l.length - 1 < l.length - 0; omega, th [] 4, rfl, rfl, rfl, rfl, rfl, rfl, ?_, ?_⟩
    · obtain rfl : i = 0 := by omega
      exact ⟨⟨⟨gN, huk⟩, fun _ => ⟨gp, gk⟩, fun h => by omega⟩, by rw [dp_zero]; decide⟩
    · (repeat' first | exact trivial | exact rfl | refine And.intro ?_ ?_)
    · (repeat' first | exact trivial | exact rfl | refine And.intro ?_ ?_)
  have gk0 : ¬ k = 0 := fun e => by
    have g : ((k : Int) == 0) = false := g
    rw [e] at g; cases g
  have hf2 := gm_find (l := l) (np l k) (k + 1) hu1
  have hpe : fi l (np l k) (k + 1) = if pr l k < k then pr l k else if ni l k = np l k then k else k + 1 := rfl
  have eM : mput (gm l k) (ni l (0 + k)) [D.n (k : Nat)] = gm l (k + 1) := by rw [z]; rfl
  intro _; refine ⟨by kernel_rfl, ?_⟩
  have eL : mfind (mput (gm l k) (ni l (0 + k)) [D.n (k : Nat)]) (np l (0 + k)) = if fi l (np l k) (k + 1) < k + 1 then some [D.n ((fi l (np l k) (k + 1) : Nat) : Int)] else none := by rw [eM, z]; exact hf2
  intro _; refine ⟨fun g => ?_, fun g => ?_⟩
  · have g : (!(mfind (mput (gm l k) (ni l (0 + k)) [D.n (k : Nat)]) (np l (0 + k))).isSome) = true := g
    rw [eL, hpe] at g
    have hp : ¬ pr l k < k := fun c => by
      rw [if_pos c, if_pos (by omega)] at g; cases g
    intro _; refine ⟨by kernel_rfl, ?_⟩
    intro _
    intro _
    exact ⟨false, .inl rfl, by rw [decide_eq_false (fun h : RV l => hp ((h.2.2.1 k (by omega)).2 (by omega)).1)], rfl⟩
  have g : (!(mfind (mput (gm l k) (ni l (0 + k)) [D.n (k : Nat)]) (np l (0 + k))).isSome) = false := g
  rw [eL, hpe] at g
  by_cases hp : pr l k < k
  rotate_left
  · have hself : ni l k = np l k := by
      refine Decidable.byContradiction fun c => ?_
      rw [if_neg hp, if_neg c, if_neg (by omega)] at g; cases g
    have eE : ((((mfind (mput (gm l k) (ni l (0 + k)) [D.n (k : Nat)]) (np l (0 + k))).getD [D.n 0]).getD 0 (D.n 0)).int) = ((k : Nat) : Int) := by rw [eL, hpe, if_neg hp, if_pos hself, if_pos (by omega)]; rfl
    intro _; refine ⟨fun _ => ?_, fun g => ?_⟩
    · intro _; refine ⟨by kernel_rfl, ?_⟩
      intro _
      intro _
      exact ⟨false, .inl rfl, by rw [decide_eq_false (fun h : RV l => hp ((h.2.2.1 k (by omega)).2 (by omega)).1)], rfl⟩
    · exfalso
      have g : (((((mfind (mput (gm l k) (ni l (0 + k)) [D.n (k : Nat)]) (np l (0 + k))).getD [D.n 0]).getD 0 (D.n 0)).int) == ((k : Nat) : Int)) = false := g
      rw [eE] at g
      simp at g
  have eE : ((((mfind (mput (gm l k) (ni l (0 + k)) [D.n (k : Nat)]) (np l (0 + k))).getD [D.n 0]).getD 0 (D.n 0)).int) = ((pr l k : Nat) : Int) := by rw [eL, hpe, if_pos hp, if_pos (by omega)]; rfl
  intro _; refine ⟨fun g => ?_, fun _ => ?_⟩
  · exfalso
    have g : ((((mfind (mput (gm l k) (ni l (0 + k)) [D.n (k : Nat)]) (np l (0 + k))).getD [D.n 0]).getD 0 (D.n 0)).int) = ((k : Nat) : Int) := eq_of_beq (show (((((mfind (mput (gm l k) (ni l (0 + k)) [D.n (k : Nat)]) (np l (0 + k))).getD [D.n 0]).getD 0 (D.n 0)).int) == ((k : Nat) : Int)) = true from g)
    rw [eE] at g
    omega
  intro _; refine ⟨show 0 ≤ ((((mfind (mput (gm l k) (ni l (0 + k)) [D.n (k : Nat)]) (np l (0 + k))).getD [D.n 0]).getD 0 (D.n 0)).int) ∧ ((((mfind (mput (gm l k) (ni l (0 + k)) [D.n (k : Nat)]) (np l (0 + k))).getD [D.n 0]).getD 0 (D.n 0)).int) < (l.length : Int) by rw [eE]; omega, ?_⟩
  intro _; refine ⟨show 0 + ((((mfind (mput (gm l k) (ni l (0 + k)) [D.n (k : Nat)]) (np l (0 + k))).getD [D.n 0]).getD 0 (D.n 0)).int).toNat < l.length by rw [eE]; omega, ?_⟩
  intro _; refine Or.inl ?_
  intro _
  refine call_pure [] (cans_ok (nk l k) (nk l (pr l k))) rfl rfl rfl ?_ ?_ ?_
  · (repeat' first | exact trivial | exact rfl | refine And.intro ?_ ?_)
  · (repeat' first | exact trivial | exact rfl | refine And.intro ?_ ?_)
    show nk l k = nk l (0 + k)
    rw [z]
    show nk l (pr l k) = nk l (0 + ((((mfind (mput (gm l k) (ni l (0 + k)) [D.n (k : Nat)]) (np l (0 + k))).getD [D.n 0]).getD 0 (D.n 0)).int).toNat)
    rw [eE, Nat.zero_add]; rfl
  intro v hv _
  subst hv
  intro _; refine ⟨fun g => ?_, fun g => ?_⟩
  · have g : (!decide (St (nk l k) (nk l (pr l k)))) = true := g
    rw [Bool.not_eq_true'] at g
    have g := of_decide_eq_false g
    intro _; refine ⟨by kernel_rfl, ?_⟩
    intro _
    intro _
    exact ⟨false, .inl rfl, by rw [decide_eq_false (fun h : RV l => g ((h.2.2.1 k (by omega)).2 (by omega)).2)], rfl⟩
  have g : (!decide (St (nk l k) (nk l (pr l k)))) = false := g
  rw [Bool.not_eq_false'] at g
  have gS := of_decide_eq_true g
  have hPk : Pa l k := ⟨fun e => absurd e gk0, fun _ => ⟨hp, gS⟩⟩
  have hds := dp_suc (l := l) (i := k) (by omega) hp
  have hgp := gd_get (l := l) k hk (fun i hi => (hm i hi).1.2) (pr l k) hp
  have eg1 : ((gd l k).set k 1).getD (pr l k) 0 = dp l (pr l k) := by rw [set_get (by omega), if_neg (by omega)]; exact hgp
  have hd30 := (hm (pr l k) hp).2
  have hb := ds_bd l k (pr l k)
  rw [ds_get l k _ hp] at hb
  intro _; refine ⟨show 0 ≤ ((((mfind (mput (gm l k) (ni l (0 + k)) [D.n (k : Nat)]) (np l (0 + k))).getD [D.n 0]).getD 0 (D.n 0)).int) ∧ ((((mfind (mput (gm l k) (ni l (0 + k)) [D.n (k : Nat)]) (np l (0 + k))).getD [D.n 0]).getD 0 (D.n 0)).int) < (l.length : Int) by rw [eE]; omega, ?_⟩
  intro _; refine ⟨show ((((mfind (mput (gm l k) (ni l (0 + k)) [D.n (k : Nat)]) (np l (0 + k))).getD [D.n 0]).getD 0 (D.n 0)).int).toNat < ((gd l k).set k 1).length by rw [eE, List.length_set]; omega, ?_⟩
  intro _; refine ⟨by kernel_rfl, ?_⟩
  intro _; refine ⟨fun g => ?_, fun g => ?_⟩
  · have g : ((gd l k).set k 1).getD ((((mfind (mput (gm l k) (ni l (0 + k)) [D.n (k : Nat)]) (np l (0 + k))).getD [D.n 0]).getD 0 (D.n 0)).int).toNat 0 = 30 := eq_of_beq (show (((gd l k).set k 1).getD ((((mfind (mput (gm l k) (ni l (0 + k)) [D.n (k : Nat)]) (np l (0 + k))).getD [D.n 0]).getD 0 (D.n 0)).int).toNat 0 == 30) = true from g)
    rw [eE, Int.toNat_natCast, eg1] at g
    intro _
    intro _
    exact ⟨false, .inl rfl, by rw [decide_eq_false (fun h : RV l => by have := h.2.2.2 k (by omega); omega)], rfl⟩
  have g : (((gd l k).set k 1).getD ((((mfind (mput (gm l k) (ni l (0 + k)) [D.n (k : Nat)]) (np l (0 + k))).getD [D.n 0]).getD 0 (D.n 0)).int).toNat 0 == 30) = false := g
  rw [eE, Int.toNat_natCast, eg1] at g
  have g30 : ¬ dp l (pr l k) = 30 := fun e => by rw [e] at g; cases g
  intro _; refine ⟨show 0 ≤ ((((mfind (mput (gm l k) (ni l (0 + k)) [D.n (k : Nat)]) (np l (0 + k))).getD [D.n 0]).getD 0 (D.n 0)).int) ∧ ((((mfind (mput (gm l k) (ni l (0 + k)) [D.n (k : Nat)]) (np l (0 + k))).getD [D.n 0]).getD 0 (D.n 0)).int) < (l.length : Int) by rw [eE]; omega, ?_⟩
  intro _; refine ⟨show ((((mfind (mput (gm l k) (ni l (0 + k)) [D.n (k : Nat)]) (np l (0 + k))).getD [D.n 0]).getD 0 (D.n 0)).int).toNat < ((gd l k).set k 1).length by rw [eE, List.length_set]; omega, ?_⟩
  intro _; refine ⟨i1, ?_⟩
  intro _; refine ⟨show (k : Int).toNat < ((gd l k).set k 1).length by rw [List.length_set]; omega, ?_⟩
  intro _; refine ⟨by kernel_rfl, ?_⟩
  refine ⟨⟨k + 1, by omega, fun i hi => ?_⟩, by show l.length - (k + 1) < l.length - k; omega, th [] 4, rfl, rfl, rfl, rfl, rfl, rfl, ?_, ?_⟩
  · by_cases c : i = k
    · subst c; exact ⟨⟨⟨gN, huk⟩, hPk⟩, by omega⟩
    · exact hm i (by omega)
  · (repeat' first | exact trivial | exact rfl | refine And.intro ?_ ?_)
    exact ek
  · (repeat' first | exact trivial | exact rfl | refine And.intro ?_ ?_)
    · exact eM.symm
    · show (if k = 0 then (gd l k).set k 1 else ((gd l k).set k 1).set k (((gd l k).set k 1).getD (pr l k) 0 + 1)) = ((gd l k).set k 1).set k (IntKind.i64.wrap (((gd l k).set k 1).getD ((((mfind (mput (gm l k) (ni l (0 + k)) [D.n (k : Nat)]) (np l (0 + k))).getD [D.n 0]).getD 0 (D.n 0)).int).toNat 0 + 1))
      rw [eE, Int.toNat_natCast, if_neg gk0, wrapS _ ⟨by omega, by omega⟩]
def uq (l : Rws) : Nat → List Int
  | 0 => List.replicate l.length 0
  | k + 1 => if k = 0 then (uq l k).set k (-1) else ((uq l k).set k (-1)).set k ((pr l k : Nat) : Int)
theorem uq_len (l : Rws) : ∀ k, (uq l k).length = l.length
  | 0 => List.length_replicate
  | k + 1 => by
    show (if k = 0 then (uq l k).set k (-1) else ((uq l k).set k (-1)).set k ((pr l k : Nat) : Int)).length = _
    split <;> simp [uq_len l k]
theorem uq_get {l : Rws} : ∀ k, k ≤ l.length → ∀ i, i < k → (uq l k).getD i 0 = if i = 0 then -1 else ((pr l i : Nat) : Int)
  | 0, _, i, hi => by omega
  | k + 1, hk, i, hi => by
    have ih := uq_get (l := l) k (by omega)
    have hl := uq_len l k
    show (if k = 0 then (uq l k).set k (-1) else ((uq l k).set k (-1)).set k ((pr l k : Nat) : Int)).getD i 0 = _
    by_cases c : k = 0
    · subst c
      obtain rfl : i = 0 := by omega
      rw [if_pos rfl, set_get (by omega), if_pos rfl, if_pos rfl]
    · rw [if_neg c, set_get (by rw [List.length_set]; omega)]
      by_cases d : k = i
      · subst d
        rw [if_pos rfl, if_neg c]
      · rw [if_neg d, set_get (by omega), if_neg d]
        exact ih i (by omega)
set_option maxHeartbeats 4000000 in
theorem parents_ok (l : Rws) (hR : RV l) : SemF Try.prog 28 [.slc 0 5 0 l.length] ⟨1, 1, [(0, .arr [.int .i64, .int .i64, .int .i64, .int .i64, .str] .rd (.recs l))]⟩ (fun v h' => v = .grw 1 l.length ∧ h' = ⟨2, 1, [(1, .arr [.int .i64] .own (.ints (uq l l.length)))]⟩) := by
  obtain ⟨⟨n1, n2⟩, hN, hP, hD⟩ := hR
  refine SemF.ret ?_
  refine enter tt_ok Try.func28 (nt := 43) (cd := body Try.f28) rfl rfl rfl rfl ?_
  intro _; refine ⟨⟨by omega, by omega, by show 8 * l.length ≤ _; omega⟩, ?_⟩
  intro _; refine ⟨rfl, ?_⟩
  intro _
  refine loop2 tt_ok [17] [1, 2] 3 (fun k : { k : Nat // k ≤ l.length } => [(17, .int .i64 (k.1 : Nat))]) (fun k => [(1, .map .i64 [.int .i64] false (gm l k.1)), (2, .arr [.int .i64] .own (.ints (uq l k.1)))]) (fun k => l.length - k.1) ⟨0, by omega⟩ ?_
  intro _
  refine ⟨⟨th [] 3, rfl, rfl, rfl, rfl, rfl, rfl, ?_, ?_⟩, ?_⟩
  · (repeat' first | exact trivial | exact rfl | refine And.intro ?_ ?_)
  · (repeat' first | exact trivial | exact rfl | refine And.intro ?_ ?_)
  intro ⟨k, hk⟩
  have z : 0 + k = k := Nat.zero_add k
  have hul := uq_len l k
  intro _; refine ⟨fun g => ?_, fun g => ?_⟩
  rotate_left
  · have hkl := of_decide_eq_false (show decide ((k : Int) < (l.length : Int)) = false from g)
    obtain rfl : k = l.length := by omega
    intro _
    refine ⟨[(1, some 2)], .grw 1 l.length, ⟨2, 1, [(1, .arr [.int .i64] .own (.ints (uq l l.length)))]⟩, rfl, rfl, rfl, rfl, ?_, ?_, ⟨rfl, rfl⟩⟩
    · (repeat' first | exact trivial | exact rfl | refine And.intro ?_ ?_)
    · (repeat' first | exact trivial | exact rfl | refine And.intro ?_ ?_)
  have hkl := of_decide_eq_true (show decide ((k : Int) < (l.length : Int)) = true from g)
  have i1 : 0 ≤ (k : Int) ∧ (k : Int) < (l.length : Int) := by omega
  have i2 : 0 + (k : Int).toNat < l.length := by omega
  have ek := (wrap_nat k (by omega)).symm
  have hu1 : ∀ i, i < k + 1 → fi l (ni l i) i = i := fun i hi => (hN i (by omega)).2
  have hf2 := gm_find (l := l) (np l k) (k + 1) hu1
  have hpe : fi l (np l k) (k + 1) = if pr l k < k then pr l k else if ni l k = np l k then k else k + 1 := rfl
  have eM : mput (gm l k) (ni l (0 + k)) [D.n (k : Nat)] = gm l (k + 1) := by rw [z]; rfl
  have eL : mfind (mput (gm l k) (ni l (0 + k)) [D.n (k : Nat)]) (np l (0 + k)) = if k = 0 then none else some [D.n ((pr l k : Nat) : Int)] := by
    rw [eM, z, hf2]
    by_cases c : k = 0
    · subst c
      have h0 := (hP 0 (by omega)).1 rfl
      have h1 := (hN 0 (by omega)).1.1
      have e : fi l (np l 0) (0 + 1) = 1 := by rw [hpe, if_neg (by omega), if_neg (by omega)]
      rw [e, if_neg (by omega), if_pos rfl]
    · have hp := ((hP k (by omega)).2 (by omega)).1
      rw [hpe, if_neg c, if_pos hp, if_pos (by omega)]
  intro _; refine ⟨i1, ?_⟩
  intro _; refine ⟨i2, ?_⟩
  intro _; refine ⟨i1, ?_⟩
  intro _; refine ⟨show (k : Int).toNat < (uq l k).length by omega, ?_⟩
  intro _; refine ⟨fun g => ?_, fun g => ?_⟩
  · have g : (mfind (mput (gm l k) (ni l (0 + k)) [D.n (k : Nat)]) (np l (0 + k))).isSome = true := g
    rw [eL] at g
    have c : ¬ k = 0 := fun c => by rw [if_pos c] at g; cases g
    have eE : ((((mfind (mput (gm l k) (ni l (0 + k)) [D.n (k : Nat)]) (np l (0 + k))).getD [D.n 0]).getD 0 (D.n 0)).int) = ((pr l k : Nat) : Int) := by rw [eL, if_neg c]; rfl
    intro _; refine ⟨i1, ?_⟩
    intro _; refine ⟨show (k : Int).toNat < ((uq l k).set k (-1)).length by rw [List.length_set]; omega, ?_⟩
    refine ⟨⟨k + 1, by omega⟩, by show l.length - (k + 1) < l.length - k; omega, th [] 3, rfl, rfl, rfl, rfl, rfl, rfl, ?_, ?_⟩
    · (repeat' first | exact trivial | exact rfl | refine And.intro ?_ ?_)
      exact ek
    · (repeat' first | exact trivial | exact rfl | refine And.intro ?_ ?_)
      · exact eM.symm
      · show (if k = 0 then (uq l k).set k (-1) else ((uq l k).set k (-1)).set k ((pr l k : Nat) : Int)) = ((uq l k).set k (-1)).set k ((((mfind (mput (gm l k) (ni l (0 + k)) [D.n (k : Nat)]) (np l (0 + k))).getD [D.n 0]).getD 0 (D.n 0)).int)
        rw [eE, if_neg c]
  · have g : (mfind (mput (gm l k) (ni l (0 + k)) [D.n (k : Nat)]) (np l (0 + k))).isSome = false := g
    rw [eL] at g
    have c : k = 0 := by
      refine Decidable.byContradiction fun c => ?_
      rw [if_neg c] at g; cases g
    refine ⟨⟨k + 1, by omega⟩, by show l.length - (k + 1) < l.length - k; omega, th [] 3, rfl, rfl, rfl, rfl, rfl, rfl, ?_, ?_⟩
    · (repeat' first | exact trivial | exact rfl | refine And.intro ?_ ?_)
      exact ek
    · (repeat' first | exact trivial | exact rfl | refine And.intro ?_ ?_)
      · exact eM.symm
      · show (if k = 0 then (uq l k).set k (-1) else ((uq l k).set k (-1)).set k ((pr l k : Nat) : Int)) = (uq l k).set k (-1)
        rw [if_pos c]
/-- a node fulfils a test -/
def FF (a c d k e i : Int) : Prop := (k = 0 ∨ k = c) ∧ (e = 0 ∨ e = d) ∧ (i = 0 ∨ i = a)
instance decFF (a c d k e i : Int) : Decidable (FF a c d k e i) := inferInstanceAs (Decidable (_ ∧ _))
set_option maxHeartbeats 1000000 in
theorem ful_ok (a b c d : Int) (s : List UInt8) (k e i : Int) (t : Bool) : SemF Try.prog 30 [.agg [.int .i64 a, .int .i64 b, .int .i64 c, .int .i64 d, .str s], .agg [.int .i64 k, .int .i64 e, .int .i64 i, .test t]] ⟨0, 0, []⟩ (fun v _ => v = .test (decide (FF a c d k e i)) ∧ nameless v = true) := by
  refine SemF.test ?_
  refine enter tt_ok Try.func30 (nt := 43) (cd := body Try.f30) rfl rfl rfl rfl ?_
  intro _; refine ⟨fun g => ?_, fun g => ?_⟩
  · have g : (k == 0 && (e == 0 && (i == 0 && (false == false)))) = true := g
    simp at g
    intro _
    exact ⟨true, .inl rfl, by rw [decide_eq_true (show FF a c d k e i from ⟨.inl g.1, .inl g.2.1, .inl g.2.2⟩)], rfl⟩
  have last : ∀ (q : (k = 0 ∨ k = c) ∧ (e = 0 ∨ e = d)), decide (FF a c d k e i) = decide (i = 0 ∨ i = a) := fun q => decide_eq_decide.2 ⟨fun h => h.2.2, fun h => ⟨q.1, q.2, h⟩⟩
  have mid : ∀ (x y : Int), ¬ x = 0 → ¬ x = y → ¬ (x = 0 ∨ x = y) := fun x y h1 h2 h => h.elim h1 h2
  intro _; refine ⟨fun g => ?_, fun g => ?_⟩
  · have q1 : k = 0 := eq_of_beq (show (k == 0) = true from g)
    have p1 : k = 0 ∨ k = c := .inl q1
    intro _; refine ⟨fun g => ?_, fun g => ?_⟩
    · have q3 : e = 0 := eq_of_beq (show (e == 0) = true from g)
      have p2 : e = 0 ∨ e = d := .inl q3
      intro _; refine ⟨fun g => ?_, fun g => ?_⟩
      · have q5 : i = 0 := eq_of_beq (show (i == 0) = true from g)
        intro _
        exact ⟨true, .inl rfl, by rw [decide_eq_true (show FF a c d k e i from ⟨p1, p2, .inl q5⟩)], rfl⟩
      have q5 : ¬ i = 0 := fun h => by
        have g : (i == 0) = false := g
        rw [h] at g; cases g
      intro _
      refine ⟨_, .inr rfl, ?_, rfl⟩
      have e' : decide (FF a c d k e i) = (i == a) := by
        rw [last ⟨p1, p2⟩]
        by_cases q : i = a
        · rw [decide_eq_true (.inr q), q]; simp
        · rw [decide_eq_false (mid _ _ q5 q)]; simp [q]
      rw [e']
    have q3 : ¬ e = 0 := fun h => by
      have g : (e == 0) = false := g
      rw [h] at g; cases g
    intro _; refine ⟨fun g => ?_, fun g => ?_⟩
    rotate_left
    · have q4 : ¬ e = d := fun h => by
        have g : (e == d) = false := g
        rw [h] at g; simp at g
      intro _
      exact ⟨false, .inl rfl, by rw [decide_eq_false (fun h : FF a c d k e i => mid _ _ q3 q4 h.2.1)], rfl⟩
    have p2 : e = 0 ∨ e = d := .inr (eq_of_beq (show (e == d) = true from g))
    intro _; refine ⟨fun g => ?_, fun g => ?_⟩
    · have q5 : i = 0 := eq_of_beq (show (i == 0) = true from g)
      intro _
      exact ⟨true, .inl rfl, by rw [decide_eq_true (show FF a c d k e i from ⟨p1, p2, .inl q5⟩)], rfl⟩
    have q5 : ¬ i = 0 := fun h => by
      have g : (i == 0) = false := g
      rw [h] at g; cases g
    intro _
    refine ⟨_, .inr rfl, ?_, rfl⟩
    have e' : decide (FF a c d k e i) = (i == a) := by
      rw [last ⟨p1, p2⟩]
      by_cases q : i = a
      · rw [decide_eq_true (.inr q), q]; simp
      · rw [decide_eq_false (mid _ _ q5 q)]; simp [q]
    rw [e']
  have q1 : ¬ k = 0 := fun h => by
    have g : (k == 0) = false := g
    rw [h] at g; cases g
  intro _; refine ⟨fun g => ?_, fun g => ?_⟩
  rotate_left
  · have q2 : ¬ k = c := fun h => by
      have g : (k == c) = false := g
      rw [h] at g; simp at g
    intro _
    exact ⟨false, .inl rfl, by rw [decide_eq_false (fun h : FF a c d k e i => mid _ _ q1 q2 h.1)], rfl⟩
  have p1 : k = 0 ∨ k = c := .inr (eq_of_beq (show (k == c) = true from g))
  intro _; refine ⟨fun g => ?_, fun g => ?_⟩
  · have q3 : e = 0 := eq_of_beq (show (e == 0) = true from g)
    have p2 : e = 0 ∨ e = d := .inl q3
    intro _; refine ⟨fun g => ?_, fun g => ?_⟩
    · have q5 : i = 0 := eq_of_beq (show (i == 0) = true from g)
      intro _
      exact ⟨true, .inl rfl, by rw [decide_eq_true (show FF a c d k e i from ⟨p1, p2, .inl q5⟩)], rfl⟩
    have q5 : ¬ i = 0 := fun h => by
      have g : (i == 0) = false := g
      rw [h] at g; cases g
    intro _
    refine ⟨_, .inr rfl, ?_, rfl⟩
    have e' : decide (FF a c d k e i) = (i == a) := by
      rw [last ⟨p1, p2⟩]
      by_cases q : i = a
      · rw [decide_eq_true (.inr q), q]; simp
      · rw [decide_eq_false (mid _ _ q5 q)]; simp [q]
    rw [e']
  have q3 : ¬ e = 0 := fun h => by
    have g : (e == 0) = false := g
    rw [h] at g; cases g
  intro _; refine ⟨fun g => ?_, fun g => ?_⟩
  rotate_left
  · have q4 : ¬ e = d := fun h => by
      have g : (e == d) = false := g
      rw [h] at g; simp at g
    intro _
    exact ⟨false, .inl rfl, by rw [decide_eq_false (fun h : FF a c d k e i => mid _ _ q3 q4 h.2.1)], rfl⟩
  have p2 : e = 0 ∨ e = d := .inr (eq_of_beq (show (e == d) = true from g))
  intro _; refine ⟨fun g => ?_, fun g => ?_⟩
  · have q5 : i = 0 := eq_of_beq (show (i == 0) = true from g)
    intro _
    exact ⟨true, .inl rfl, by rw [decide_eq_true (show FF a c d k e i from ⟨p1, p2, .inl q5⟩)], rfl⟩
  have q5 : ¬ i = 0 := fun h => by
    have g : (i == 0) = false := g
    rw [h] at g; cases g
  intro _
  refine ⟨_, .inr rfl, ?_, rfl⟩
  have e' : decide (FF a c d k e i) = (i == a) := by
    rw [last ⟨p1, p2⟩]
    by_cases q : i = a
    · rw [decide_eq_true (.inr q), q]; simp
    · rw [decide_eq_false (mid _ _ q5 q)]; simp [q]
  rw [e']
theorem and_bit : ∀ k, k < 8 → ∀ x, x < 256 → ((Go.Vm.arith .and .i64 (x : Nat) (IntKind.i64.wrap (1 * 2 ^ k)) != 0) = Nat.testBit x k) := by decide +kernel
theorem or_bit : ∀ k, k < 8 → ∀ x, x < 256 → (Go.Vm.arith .or .i64 (x : Nat) (IntKind.i64.wrap (1 * 2 ^ k)) = ((x ||| 2 ^ k : Nat) : Int)) := by decide +kernel
theorem or_two : ∀ y, y < 256 → ∀ x, x < 256 → (Go.Vm.arith .or .i64 (x : Nat) (y : Nat) = ((x ||| y : Nat) : Int)) := by decide +kernel
def FFb (l T : Rws) (i k : Nat) : Bool := decide (FF (ni l i) (nk l i) (nc l i) (tk T k) (tc T k) (ti T k))
/-- the beginnings of a selector that match a node, as bits -/
def okm (l T : Rws) (i p a : Nat) : Nat → Nat
  | 0 => 0
  | k + 1 => if ((k == 0 || Nat.testBit (if tb T k then p else a) (k - 1)) && FFb l T i k) = true then okm l T i p a k ||| 2 ^ k else okm l T i p a k
theorem okm_lt (l T : Rws) (i p a : Nat) : ∀ k, okm l T i p a k < 2 ^ k
  | 0 => by show (0 : Nat) < 2 ^ 0; decide
  | k + 1 => by
    have ih := okm_lt l T i p a k
    have h2 : (2 : Nat) ^ k < 2 ^ (k + 1) := Nat.pow_lt_pow_right (by decide) (by omega)
    have e : okm l T i p a (k + 1) = if ((k == 0 || Nat.testBit (if tb T k then p else a) (k - 1)) && FFb l T i k) = true then okm l T i p a k ||| 2 ^ k else okm l T i p a k := rfl
    rw [e]
    by_cases c : ((k == 0 || Nat.testBit (if tb T k then p else a) (k - 1)) && FFb l T i k) = true
    · rw [if_pos c]; exact Nat.or_lt_two_pow (by omega) h2
    · rw [if_neg c]; omega
theorem okm_lt8 (l T : Rws) (i p a : Nat) {k : Nat} (h : k ≤ 8) : okm l T i p a k < 256 := by
  have := okm_lt l T i p a k
  have h2 : (2 : Nat) ^ k ≤ 2 ^ 8 := Nat.pow_le_pow_right (by decide) h
  omega
def PL (l T : Rws) : Nat → List Nat × List Nat
  | 0 => ([], [])
  | k + 1 => ((PL l T k).1 ++ [okm l T k (if k = 0 then 0 else (PL l T k).1.getD (pr l k) 0) (if k = 0 then 0 else (PL l T k).2.getD (pr l k) 0) T.length], (PL l T k).2 ++ [(if k = 0 then 0 else (PL l T k).2.getD (pr l k) 0) ||| okm l T k (if k = 0 then 0 else (PL l T k).1.getD (pr l k) 0) (if k = 0 then 0 else (PL l T k).2.getD (pr l k) 0) T.length])
def pk (l T : Rws) (k : Nat) : Nat := if k = 0 then 0 else (PL l T k).1.getD (pr l k) 0
def ak (l T : Rws) (k : Nat) : Nat := if k = 0 then 0 else (PL l T k).2.getD (pr l k) 0
def om (l T : Rws) (k : Nat) : Nat := okm l T k (pk l T k) (ak l T k) T.length
theorem PL_suc (l T : Rws) (k : Nat) : PL l T (k + 1) = ((PL l T k).1 ++ [om l T k], (PL l T k).2 ++ [ak l T k ||| om l T k]) := rfl
theorem PL_len (l T : Rws) : ∀ k, (PL l T k).1.length = k ∧ (PL l T k).2.length = k
  | 0 => ⟨rfl, rfl⟩
  | k + 1 => by
    have := PL_len l T k
    rw [PL_suc]
    simp [this.1, this.2]
theorem PL_get (l T : Rws) : ∀ k i, i < k → (PL l T k).1.getD i 0 = om l T i ∧ (PL l T k).2.getD i 0 = (ak l T i ||| om l T i)
  | 0, i, h => by omega
  | k + 1, i, h => by
    have hl := PL_len l T k
    rw [PL_suc]
    by_cases c : i = k
    · subst c
      simp only [List.getD_eq_getElem?_getD]
      rw [List.getElem?_append_right (by omega), List.getElem?_append_right (by omega), hl.1, hl.2, Nat.sub_self]
      exact ⟨rfl, rfl⟩
    · have ih := PL_get l T k i (by omega)
      simp only [List.getD_eq_getElem?_getD] at ih ⊢
      rw [List.getElem?_append_left (by omega), List.getElem?_append_left (by omega)]
      exact ih
theorem PL_lt (l T : Rws) (h8 : T.length ≤ 8) : ∀ k, (∀ x ∈ (PL l T k).1, x < 256) ∧ (∀ x ∈ (PL l T k).2, x < 256)
  | 0 => ⟨fun x h => (List.not_mem_nil h).elim, fun x h => (List.not_mem_nil h).elim⟩
  | k + 1 => by
    obtain ⟨i1, i2⟩ := PL_lt l T h8 k
    have g : ∀ (L : List Nat) (i : Nat), (∀ x ∈ L, x < 256) → L.getD i 0 < 256 := fun L i h => by
      rw [List.getD_eq_getElem?_getD]
      cases c : L[i]? with
      | none => show (0 : Nat) < 256; decide
      | some x => exact h x (List.mem_of_getElem? c)
    have ha : ak l T k < 256 := by
      unfold ak; split
      · decide
      · exact g _ _ i2
    have ho : om l T k < 256 := okm_lt8 _ _ _ _ _ h8
    rw [PL_suc]
    refine ⟨fun x h => ?_, fun x h => ?_⟩
    · rcases List.mem_append.1 h with h | h
      · exact i1 x h
      · rw [List.mem_singleton.1 h]; exact ho
    · rcases List.mem_append.1 h with h | h
      · exact i2 x h
      · rw [List.mem_singleton.1 h]
        exact Nat.or_lt_two_pow (n := 8) ha ho
theorem pk_lt (l T : Rws) (h8 : T.length ≤ 8) (k : Nat) : pk l T k < 256 ∧ ak l T k < 256 := by
  obtain ⟨i1, i2⟩ := PL_lt l T h8 k
  have g : ∀ (L : List Nat) (i : Nat), (∀ x ∈ L, x < 256) → L.getD i 0 < 256 := fun L i h => by
    rw [List.getD_eq_getElem?_getD]
    cases c : L[i]? with
    | none => show (0 : Nat) < 256; decide
    | some x => exact h x (List.mem_of_getElem? c)
  unfold pk ak
  refine ⟨?_, ?_⟩ <;> split <;> first | decide | exact g _ _ i1 | exact g _ _ i2
def padG {α : Type} (L : List α) (z : α) (n : Nat) : List α := L ++ List.replicate (n - L.length) z
theorem padG_len {α : Type} {L : List α} {z : α} {n : Nat} (h : L.length ≤ n) : (padG L z n).length = n := by
  unfold padG; simp; omega
theorem padG_set {α : Type} {L : List α} {z v : α} {n k : Nat} (hk : L.length = k) (h : k < n) : (padG L z n).set k v = padG (L ++ [v]) z n := by
  unfold padG
  subst hk
  obtain ⟨d, hd⟩ : ∃ d, n - L.length = d + 1 := ⟨n - L.length - 1, by omega⟩
  have hd2 : n - (L ++ [v]).length = d := by rw [List.length_append]; show n - (L.length + 1) = d; omega
  rw [hd, hd2, List.replicate_succ, List.set_append_right _ _ (Nat.le_refl _), Nat.sub_self, List.set_cons_zero, List.append_assoc]
  rfl
theorem padG_zero {α : Type} {L : List α} {z : α} {n k : Nat} (hk : L.length = k) (h : k < n) : (padG L z n).set k z = padG L z n := by
  unfold padG
  subst hk
  obtain ⟨d, hd⟩ : ∃ d, n - L.length = d + 1 := ⟨n - L.length - 1, by omega⟩
  rw [hd, List.replicate_succ, List.set_append_right _ _ (Nat.le_refl _), Nat.sub_self, List.set_cons_zero]
theorem padG_get {α : Type} {L : List α} {z y : α} {n i : Nat} (h : i < L.length) : (padG L z n).getD i y = L.getD i y := by
  unfold padG
  rw [List.getD_eq_getElem?_getD, List.getElem?_append_left h, ← List.getD_eq_getElem?_getD]
def OI (l T : Rws) (k : Nat) : List Int := (PL l T k).1.map (fun x : Nat => (x : Int))
def AI (l T : Rws) (k : Nat) : List Int := (PL l T k).2.map (fun x : Nat => (x : Int))
def mt (l T : Rws) (i : Nat) : Bool := Nat.testBit (om l T i) (T.length - 1)
def BI (l T : Rws) : Nat → List (List D)
  | 0 => []
  | k + 1 => BI l T k ++ [[D.b (mt l T k)]]
theorem OI_len (l T : Rws) (k : Nat) : (OI l T k).length = k := by unfold OI; rw [List.length_map]; exact (PL_len l T k).1
theorem AI_len (l T : Rws) (k : Nat) : (AI l T k).length = k := by unfold AI; rw [List.length_map]; exact (PL_len l T k).2
theorem BI_len (l T : Rws) : ∀ k, (BI l T k).length = k
  | 0 => rfl
  | k + 1 => by show (BI l T k ++ [_]).length = k + 1; rw [List.length_append, BI_len l T k]; rfl
theorem map_getD (L : List Nat) (i : Nat) : (L.map (fun x : Nat => (x : Int))).getD i 0 = ((L.getD i 0 : Nat) : Int) := by
  rw [List.getD_eq_getElem?_getD, List.getD_eq_getElem?_getD, List.getElem?_map]
  cases L[i]? <;> rfl
theorem OI_suc (l T : Rws) (k : Nat) : OI l T (k + 1) = OI l T k ++ [((om l T k : Nat) : Int)] := by unfold OI; rw [PL_suc]; simp
theorem AI_suc (l T : Rws) (k : Nat) : AI l T (k + 1) = AI l T k ++ [((ak l T k ||| om l T k : Nat) : Int)] := by unfold AI; rw [PL_suc]; simp
set_option maxHeartbeats 16000000 in
theorem all_ok (l T : Rws) (hR : RV l) (hT : Tv T) : SemF Try.prog 36 [.slc 0 5 0 l.length, .slc 1 1 0 l.length, .slc 2 4 0 T.length] ⟨3, 3, [(0, .arr [.int .i64, .int .i64, .int .i64, .int .i64, .str] .rd (.recs l)), (1, .arr [.int .i64] .rd (.ints (uq l l.length))), (2, .arr [.int .i64, .int .i64, .int .i64, .bool] .rd (.recs T))]⟩ (fun v h' => v = .grw 3 l.length ∧ h' = ⟨4, 3, [(3, .arr [.bool] .own (.recs (BI l T l.length)))]⟩) := by
  obtain ⟨⟨n1, n2⟩, hN, hP, hD⟩ := hR
  have t1 := hT.1.1.1
  have t8 := hT.1.1.2
  refine SemF.ret ?_
  refine enter tt_ok Try.func36 (nt := 111) (cd := body Try.f36) rfl rfl rfl rfl ?_
  intro _; refine ⟨⟨by omega, by omega, by show 8 * l.length ≤ _; omega⟩, ?_⟩
  intro _; refine ⟨rfl, ?_⟩
  intro _; refine ⟨⟨by omega, by omega, by show 8 * l.length ≤ _; omega⟩, ?_⟩
  intro _; refine ⟨rfl, ?_⟩
  intro _; refine ⟨⟨by omega, by omega, by show 1 * l.length ≤ _; omega⟩, ?_⟩
  intro _
  refine loop2 tt_ok [28] [3, 4, 5] 6 (fun k : { k : Nat // k ≤ l.length } => [(28, .int .i64 (k.1 : Nat))]) (fun k => [(3, .arr [.int .i64] .own (.ints (padG (OI l T k.1) 0 l.length))), (4, .arr [.int .i64] .own (.ints (padG (AI l T k.1) 0 l.length))), (5, .arr [.bool] .own (.recs (padG (BI l T k.1) [D.b false] l.length)))]) (fun k => l.length - k.1) ⟨0, by omega⟩ ?_
  intro _
  refine ⟨⟨th [] 6, rfl, rfl, rfl, rfl, rfl, rfl, ?_, ?_⟩, ?_⟩
  · (repeat' first | exact trivial | exact rfl | refine And.intro ?_ ?_)
  · (repeat' first | exact trivial | exact rfl | refine And.intro ?_ ?_)
  intro ⟨k, hk⟩
  have z : 0 + k = k := Nat.zero_add k
  have lo := OI_len l T k
  have la := AI_len l T k
  have lb := BI_len l T k
  intro _; refine ⟨fun g => ?_, fun g => ?_⟩
  rotate_left
  · have hkl := of_decide_eq_false (show decide ((k : Int) < (l.length : Int)) = false from g)
    obtain rfl : k = l.length := by omega
    have eB : padG (BI l T l.length) [D.b false] l.length = BI l T l.length := by unfold padG; rw [lb, Nat.sub_self]; simp
    intro _
    refine ⟨[(3, some 5)], .grw 3 l.length, ⟨4, 3, [(3, .arr [.bool] .own (.recs (BI l T l.length)))]⟩, rfl, rfl, rfl, rfl, ?_, ?_, ⟨rfl, rfl⟩⟩
    · (repeat' first | exact trivial | exact rfl | refine And.intro ?_ ?_)
    · (repeat' first | exact trivial | exact rfl | refine And.intro ?_ ?_)
      exact eB.symm
  have hkl := of_decide_eq_true (show decide ((k : Int) < (l.length : Int)) = true from g)
  have hkn : k < l.length := by omega
  have i1 : 0 ≤ (k : Int) ∧ (k : Int) < (l.length : Int) := by omega
  have i2 : 0 + (k : Int).toNat < l.length := by omega
  have ek := (wrap_nat k (by omega)).symm
  have lO : (padG (OI l T k) 0 l.length).length = l.length := padG_len (by omega)
  have lA : (padG (AI l T k) 0 l.length).length = l.length := padG_len (by omega)
  have lB : (padG (BI l T k) [D.b false] l.length).length = l.length := padG_len (by omega)
  have eu : (uq l l.length).getD (0 + (k : Int).toNat) 0 = if k = 0 then -1 else ((pr l k : Nat) : Int) := by
    rw [show 0 + (k : Int).toNat = k by omega]; exact uq_get l.length (Nat.le_refl _) k hkn
  have lu := uq_len l l.length
  obtain ⟨bp, ba⟩ := pk_lt l T t8 k
  have bo : om l T k < 256 := okm_lt8 l T k (pk l T k) (ak l T k) t8
  have oj : ∀ j, j ≤ T.length → okm l T k (pk l T k) (ak l T k) j < 256 := fun j hj => okm_lt8 _ _ _ _ _ (by omega)
  have gs : ∀ v : Int, ((padG (OI l T k) 0 l.length).set k v).getD k 0 = v := fun v => by rw [set_get (by omega), if_pos rfl]
  have ls : ∀ v : Int, ((padG (OI l T k) 0 l.length).set k v).length = l.length := fun v => by rw [List.length_set]; exact lO
  have sh : ∀ j : Nat, j ≤ 8 → IntKind.i64.wrap (1 * 2 ^ (min ((j : Int)).toNat IntKind.i64.bits)) = IntKind.i64.wrap (1 * 2 ^ j) := fun j hj => by
    have e : min ((j : Int)).toNat IntKind.i64.bits = j := by
      have : IntKind.i64.bits = 64 := rfl
      rw [this]; omega
    rw [e]
  intro _; refine ⟨i1, ?_⟩
  intro _; refine ⟨i2, ?_⟩
  intro _; refine ⟨i1, ?_⟩
  intro _; refine ⟨show 0 + (k : Int).toNat < (uq l l.length).length by omega, ?_⟩
  intro _; refine ⟨fun g => ?_, fun g => ?_⟩
  · have g := of_decide_eq_true (show decide ((uq l l.length).getD (0 + (k : Int).toNat) 0 ≥ 0) = true from g)
    have c : ¬ k = 0 := fun c => by rw [eu, if_pos c] at g; omega
    have eu2 : (uq l l.length).getD (0 + (k : Int).toNat) 0 = ((pr l k : Nat) : Int) := by rw [eu, if_neg c]
    have hp := ((hP k hkn).2 (by omega)).1
    have j1 : 0 ≤ (uq l l.length).getD (0 + (k : Int).toNat) 0 ∧ (uq l l.length).getD (0 + (k : Int).toNat) 0 < (l.length : Int) := by rw [eu2]; omega
    have eP : ((pk l T k : Nat) : Int) = (padG (OI l T k) 0 l.length).getD ((uq l l.length).getD (0 + (k : Int).toNat) 0).toNat 0 := by
      rw [eu2, Int.toNat_natCast, padG_get (by omega)]
      unfold OI pk
      rw [map_getD, if_neg c]
    have eA : ((ak l T k : Nat) : Int) = (padG (AI l T k) 0 l.length).getD ((uq l l.length).getD (0 + (k : Int).toNat) 0).toNat 0 := by
      rw [eu2, Int.toNat_natCast, padG_get (by omega)]
      unfold AI ak
      rw [map_getD, if_neg c]
    intro _; refine ⟨i1, ?_⟩
    intro _; refine ⟨show 0 + (k : Int).toNat < (uq l l.length).length by omega, ?_⟩
    intro _; refine ⟨j1, ?_⟩
    intro _; refine ⟨show ((uq l l.length).getD (0 + (k : Int).toNat) 0).toNat < (padG (OI l T k) 0 l.length).length by omega, ?_⟩
    intro _; refine ⟨i1, ?_⟩
    intro _; refine ⟨show 0 + (k : Int).toNat < (uq l l.length).length by omega, ?_⟩
    intro _; refine ⟨j1, ?_⟩
    intro _; refine ⟨show ((uq l l.length).getD (0 + (k : Int).toNat) 0).toNat < (padG (AI l T k) 0 l.length).length by omega, ?_⟩
    intro _; refine ⟨by kernel_rfl, ?_⟩
    intro _
    refine loop2 tt_ok [54, 12, 13] [3] 7 (fun j : { j : Nat // j ≤ T.length } => [(54, .int .i64 (j.1 : Nat)), (12, .int .i64 ((pk l T k : Nat) : Int)), (13, .int .i64 ((ak l T k : Nat) : Int))]) (fun j => [(3, .arr [.int .i64] .own (.ints ((padG (OI l T k) 0 l.length).set k ((okm l T k (pk l T k) (ak l T k) j.1 : Nat) : Int))))]) (fun j => T.length - j.1) ⟨0, by omega⟩ ?_
    intro _
    refine ⟨⟨th [] 7, rfl, rfl, rfl, rfl, rfl, rfl, ?_, ?_⟩, ?_⟩
    · (repeat' first | exact trivial | exact rfl | refine And.intro ?_ ?_)
      · exact eP
      · exact eA
    · (repeat' first | exact trivial | exact rfl | refine And.intro ?_ ?_)
      show (padG (OI l T k) 0 l.length).set k ((0 : Nat) : Int) = padG (OI l T k) 0 l.length
      exact padG_zero lo hkn
    intro ⟨j, hj⟩
    have zj : 0 + j = j := Nat.zero_add j
    intro _; refine ⟨fun g => ?_, fun g => ?_⟩
    · have hjl := of_decide_eq_true (show decide ((j : Int) < (T.length : Int)) = true from g)
      intro _; refine ⟨show 0 ≤ (j : Int) ∧ (j : Int) < (T.length : Int) by omega, ?_⟩
      intro _; refine ⟨show 0 + (j : Int).toNat < T.length by omega, ?_⟩
      intro _; refine ⟨fun g => ?_, fun g => ?_⟩
      · have htb : tb T j = true := by
          have g : tb T (0 + j) = true := g
          rw [zj] at g; exact g
        intro _; refine ⟨fun g => ?_, fun g => ?_⟩
        · have gj : (j : Int) = 0 := eq_of_beq (show ((j : Int) == 0) = true from g)
          have gj : j = 0 := by omega
          intro _
          refine call_pure [] (ful_ok (ni l (0 + k)) (np l (0 + k)) (nk l (0 + k)) (nc l (0 + k)) (nt l (0 + k)) (tk T (0 + j)) (tc T (0 + j)) (ti T (0 + j)) (tb T (0 + j))) rfl rfl rfl ?_ ?_ ?_
          · (repeat' first | exact trivial | exact rfl | refine And.intro ?_ ?_)
          · (repeat' first | exact trivial | exact rfl | refine And.intro ?_ ?_)
          intro v hv _
          subst hv
          intro _; refine ⟨fun g => ?_, fun g => ?_⟩
          · have hF : FFb l T k j = true := by
              have g : decide (FF (ni l (0 + k)) (nk l (0 + k)) (nc l (0 + k)) (tk T (0 + j)) (tc T (0 + j)) (ti T (0 + j))) = true := g
              rw [z, zj] at g; exact g
            have hstep : okm l T k (pk l T k) (ak l T k) (j + 1) = okm l T k (pk l T k) (ak l T k) j ||| 2 ^ j := by
              show (if ((j == 0 || Nat.testBit (if tb T j then pk l T k else ak l T k) (j - 1)) && FFb l T k j) = true then _ else _) = _
              rw [if_pos (by rw [hF, gj, show ((0 : Nat) == 0) = true from rfl, Bool.true_or]; rfl)]
            intro _; refine ⟨i1, ?_⟩
            intro _; refine ⟨show (k : Int).toNat < ((padG (OI l T k) 0 l.length).set k _).length by rw [ls]; omega, ?_⟩
            intro _; refine ⟨show (0 : Int) ≤ (j : Int) by omega, ?_⟩
            intro _; refine ⟨i1, ?_⟩
            intro _; refine ⟨show (k : Int).toNat < ((padG (OI l T k) 0 l.length).set k _).length by rw [ls]; omega, ?_⟩
            intro _; refine ⟨by kernel_rfl, ?_⟩
            refine ⟨⟨j + 1, by omega⟩, by show T.length - (j + 1) < T.length - j; omega, th [] 7, rfl, rfl, rfl, rfl, rfl, rfl, ?_, ?_⟩
            · (repeat' first | exact trivial | exact rfl | refine And.intro ?_ ?_)
              exact (wrap_nat j (by omega)).symm
            · (repeat' first | exact trivial | exact rfl | refine And.intro ?_ ?_)
              show (padG (OI l T k) 0 l.length).set k ((okm l T k (pk l T k) (ak l T k) (j + 1) : Nat) : Int) = ((padG (OI l T k) 0 l.length).set k ((okm l T k (pk l T k) (ak l T k) j : Nat) : Int)).set k (Go.Vm.arith .or .i64 (((padG (OI l T k) 0 l.length).set k ((okm l T k (pk l T k) (ak l T k) j : Nat) : Int)).getD k 0) (IntKind.i64.wrap (1 * 2 ^ (min ((j : Int)).toNat IntKind.i64.bits))))
              rw [List.set_set, gs, sh j (by omega), or_bit j (by omega) _ (oj j (by omega)), hstep]
          have hF : FFb l T k j = false := by
            have g : decide (FF (ni l (0 + k)) (nk l (0 + k)) (nc l (0 + k)) (tk T (0 + j)) (tc T (0 + j)) (ti T (0 + j))) = false := g
            rw [z, zj] at g; exact g
          have hstep : okm l T k (pk l T k) (ak l T k) (j + 1) = okm l T k (pk l T k) (ak l T k) j := by
            show (if ((j == 0 || Nat.testBit (if tb T j then pk l T k else ak l T k) (j - 1)) && FFb l T k j) = true then _ else _) = _
            rw [if_neg (by rw [hF, Bool.and_false]; decide)]
          refine ⟨⟨j + 1, by omega⟩, by show T.length - (j + 1) < T.length - j; omega, th [] 7, rfl, rfl, rfl, rfl, rfl, rfl, ?_, ?_⟩
          · (repeat' first | exact trivial | exact rfl | refine And.intro ?_ ?_)
            exact (wrap_nat j (by omega)).symm
          · (repeat' first | exact trivial | exact rfl | refine And.intro ?_ ?_)
            show (padG (OI l T k) 0 l.length).set k ((okm l T k (pk l T k) (ak l T k) (j + 1) : Nat) : Int) = (padG (OI l T k) 0 l.length).set k ((okm l T k (pk l T k) (ak l T k) j : Nat) : Int)
            rw [hstep]
        have gj : ¬ j = 0 := fun e => by
          have g : ((j : Int) == 0) = false := g
          rw [e] at g; cases g
        have ew : IntKind.i64.wrap ((j : Int) - 1) = ((j - 1 : Nat) : Int) := by rw [wrapS _ ⟨by omega, by omega⟩]; omega
        have gb : (j == 0) = false := by simpa using gj
        intro _; refine ⟨show (0 : Int) ≤ IntKind.i64.wrap ((j : Int) - 1) by rw [ew]; omega, ?_⟩
        have eb : (Go.Vm.arith .and .i64 ((pk l T k : Nat) : Int) (IntKind.i64.wrap (1 * 2 ^ (min (IntKind.i64.wrap ((j : Int) - 1)).toNat IntKind.i64.bits))) != 0) = Nat.testBit (pk l T k) (j - 1) := by rw [ew, sh (j - 1) (by omega)]; exact and_bit (j - 1) (by omega) _ bp
        have hsel : (if tb T j then pk l T k else ak l T k) = pk l T k := if_pos (by rw [htb])
        intro _; refine ⟨fun g => ?_, fun g => ?_⟩
        rotate_left
        · have g : (Go.Vm.arith .and .i64 ((pk l T k : Nat) : Int) (IntKind.i64.wrap (1 * 2 ^ (min (IntKind.i64.wrap ((j : Int) - 1)).toNat IntKind.i64.bits))) != 0) = false := g
          rw [eb] at g
          have hstep : okm l T k (pk l T k) (ak l T k) (j + 1) = okm l T k (pk l T k) (ak l T k) j := by
            show (if ((j == 0 || Nat.testBit (if tb T j then pk l T k else ak l T k) (j - 1)) && FFb l T k j) = true then _ else _) = _
            rw [if_neg (by rw [hsel, g, gb]; simp)]
          refine ⟨⟨j + 1, by omega⟩, by show T.length - (j + 1) < T.length - j; omega, th [] 7, rfl, rfl, rfl, rfl, rfl, rfl, ?_, ?_⟩
          · (repeat' first | exact trivial | exact rfl | refine And.intro ?_ ?_)
            exact (wrap_nat j (by omega)).symm
          · (repeat' first | exact trivial | exact rfl | refine And.intro ?_ ?_)
            show (padG (OI l T k) 0 l.length).set k ((okm l T k (pk l T k) (ak l T k) (j + 1) : Nat) : Int) = (padG (OI l T k) 0 l.length).set k ((okm l T k (pk l T k) (ak l T k) j : Nat) : Int)
            rw [hstep]
        have gt : Nat.testBit (pk l T k) (j - 1) = true := by
          have g : (Go.Vm.arith .and .i64 ((pk l T k : Nat) : Int) (IntKind.i64.wrap (1 * 2 ^ (min (IntKind.i64.wrap ((j : Int) - 1)).toNat IntKind.i64.bits))) != 0) = true := g
          rw [eb] at g; exact g
        intro _
        refine call_pure [] (ful_ok (ni l (0 + k)) (np l (0 + k)) (nk l (0 + k)) (nc l (0 + k)) (nt l (0 + k)) (tk T (0 + j)) (tc T (0 + j)) (ti T (0 + j)) (tb T (0 + j))) rfl rfl rfl ?_ ?_ ?_
        · (repeat' first | exact trivial | exact rfl | refine And.intro ?_ ?_)
        · (repeat' first | exact trivial | exact rfl | refine And.intro ?_ ?_)
        intro v hv _
        subst hv
        intro _; refine ⟨fun g => ?_, fun g => ?_⟩
        · have hF : FFb l T k j = true := by
            have g : decide (FF (ni l (0 + k)) (nk l (0 + k)) (nc l (0 + k)) (tk T (0 + j)) (tc T (0 + j)) (ti T (0 + j))) = true := g
            rw [z, zj] at g; exact g
          have hstep : okm l T k (pk l T k) (ak l T k) (j + 1) = okm l T k (pk l T k) (ak l T k) j ||| 2 ^ j := by
            show (if ((j == 0 || Nat.testBit (if tb T j then pk l T k else ak l T k) (j - 1)) && FFb l T k j) = true then _ else _) = _
            rw [if_pos (by rw [hF, hsel, gt, Bool.or_true]; rfl)]
          intro _; refine ⟨i1, ?_⟩
          intro _; refine ⟨show (k : Int).toNat < ((padG (OI l T k) 0 l.length).set k _).length by rw [ls]; omega, ?_⟩
          intro _; refine ⟨show (0 : Int) ≤ (j : Int) by omega, ?_⟩
          intro _; refine ⟨i1, ?_⟩
          intro _; refine ⟨show (k : Int).toNat < ((padG (OI l T k) 0 l.length).set k _).length by rw [ls]; omega, ?_⟩
          intro _; refine ⟨by kernel_rfl, ?_⟩
          refine ⟨⟨j + 1, by omega⟩, by show T.length - (j + 1) < T.length - j; omega, th [] 7, rfl, rfl, rfl, rfl, rfl, rfl, ?_, ?_⟩
          · (repeat' first | exact trivial | exact rfl | refine And.intro ?_ ?_)
            exact (wrap_nat j (by omega)).symm
          · (repeat' first | exact trivial | exact rfl | refine And.intro ?_ ?_)
            show (padG (OI l T k) 0 l.length).set k ((okm l T k (pk l T k) (ak l T k) (j + 1) : Nat) : Int) = ((padG (OI l T k) 0 l.length).set k ((okm l T k (pk l T k) (ak l T k) j : Nat) : Int)).set k (Go.Vm.arith .or .i64 (((padG (OI l T k) 0 l.length).set k ((okm l T k (pk l T k) (ak l T k) j : Nat) : Int)).getD k 0) (IntKind.i64.wrap (1 * 2 ^ (min ((j : Int)).toNat IntKind.i64.bits))))
            rw [List.set_set, gs, sh j (by omega), or_bit j (by omega) _ (oj j (by omega)), hstep]
        have hF : FFb l T k j = false := by
          have g : decide (FF (ni l (0 + k)) (nk l (0 + k)) (nc l (0 + k)) (tk T (0 + j)) (tc T (0 + j)) (ti T (0 + j))) = false := g
          rw [z, zj] at g; exact g
        have hstep : okm l T k (pk l T k) (ak l T k) (j + 1) = okm l T k (pk l T k) (ak l T k) j := by
          show (if ((j == 0 || Nat.testBit (if tb T j then pk l T k else ak l T k) (j - 1)) && FFb l T k j) = true then _ else _) = _
          rw [if_neg (by rw [hF, Bool.and_false]; decide)]
        refine ⟨⟨j + 1, by omega⟩, by show T.length - (j + 1) < T.length - j; omega, th [] 7, rfl, rfl, rfl, rfl, rfl, rfl, ?_, ?_⟩
        · (repeat' first | exact trivial | exact rfl | refine And.intro ?_ ?_)
          exact (wrap_nat j (by omega)).symm
        · (repeat' first | exact trivial | exact rfl | refine And.intro ?_ ?_)
          show (padG (OI l T k) 0 l.length).set k ((okm l T k (pk l T k) (ak l T k) (j + 1) : Nat) : Int) = (padG (OI l T k) 0 l.length).set k ((okm l T k (pk l T k) (ak l T k) j : Nat) : Int)
          rw [hstep]
      have htb : tb T j = false := by
        have g : tb T (0 + j) = false := g
        rw [zj] at g; exact g
      intro _; refine ⟨fun g => ?_, fun g => ?_⟩
      · have gj : (j : Int) = 0 := eq_of_beq (show ((j : Int) == 0) = true from g)
        have gj : j = 0 := by omega
        intro _
        refine call_pure [] (ful_ok (ni l (0 + k)) (np l (0 + k)) (nk l (0 + k)) (nc l (0 + k)) (nt l (0 + k)) (tk T (0 + j)) (tc T (0 + j)) (ti T (0 + j)) (tb T (0 + j))) rfl rfl rfl ?_ ?_ ?_
        · (repeat' first | exact trivial | exact rfl | refine And.intro ?_ ?_)
        · (repeat' first | exact trivial | exact rfl | refine And.intro ?_ ?_)
        intro v hv _
        subst hv
        intro _; refine ⟨fun g => ?_, fun g => ?_⟩
        · have hF : FFb l T k j = true := by
            have g : decide (FF (ni l (0 + k)) (nk l (0 + k)) (nc l (0 + k)) (tk T (0 + j)) (tc T (0 + j)) (ti T (0 + j))) = true := g
            rw [z, zj] at g; exact g
          have hstep : okm l T k (pk l T k) (ak l T k) (j + 1) = okm l T k (pk l T k) (ak l T k) j ||| 2 ^ j := by
            show (if ((j == 0 || Nat.testBit (if tb T j then pk l T k else ak l T k) (j - 1)) && FFb l T k j) = true then _ else _) = _
            rw [if_pos (by rw [hF, gj, show ((0 : Nat) == 0) = true from rfl, Bool.true_or]; rfl)]
          intro _; refine ⟨i1, ?_⟩
          intro _; refine ⟨show (k : Int).toNat < ((padG (OI l T k) 0 l.length).set k _).length by rw [ls]; omega, ?_⟩
          intro _; refine ⟨show (0 : Int) ≤ (j : Int) by omega, ?_⟩
          intro _; refine ⟨i1, ?_⟩
          intro _; refine ⟨show (k : Int).toNat < ((padG (OI l T k) 0 l.length).set k _).length by rw [ls]; omega, ?_⟩
          intro _; refine ⟨by kernel_rfl, ?_⟩
          refine ⟨⟨j + 1, by omega⟩, by show T.length - (j + 1) < T.length - j; omega, th [] 7, rfl, rfl, rfl, rfl, rfl, rfl, ?_, ?_⟩
          · (repeat' first | exact trivial | exact rfl | refine And.intro ?_ ?_)
            exact (wrap_nat j (by omega)).symm
          · (repeat' first | exact trivial | exact rfl | refine And.intro ?_ ?_)
            show (padG (OI l T k) 0 l.length).set k ((okm l T k (pk l T k) (ak l T k) (j + 1) : Nat) : Int) = ((padG (OI l T k) 0 l.length).set k ((okm l T k (pk l T k) (ak l T k) j : Nat) : Int)).set k (Go.Vm.arith .or .i64 (((padG (OI l T k) 0 l.length).set k ((okm l T k (pk l T k) (ak l T k) j : Nat) : Int)).getD k 0) (IntKind.i64.wrap (1 * 2 ^ (min ((j : Int)).toNat IntKind.i64.bits))))
            rw [List.set_set, gs, sh j (by omega), or_bit j (by omega) _ (oj j (by omega)), hstep]
        have hF : FFb l T k j = false := by
          have g : decide (FF (ni l (0 + k)) (nk l (0 + k)) (nc l (0 + k)) (tk T (0 + j)) (tc T (0 + j)) (ti T (0 + j))) = false := g
          rw [z, zj] at g; exact g
        have hstep : okm l T k (pk l T k) (ak l T k) (j + 1) = okm l T k (pk l T k) (ak l T k) j := by
          show (if ((j == 0 || Nat.testBit (if tb T j then pk l T k else ak l T k) (j - 1)) && FFb l T k j) = true then _ else _) = _
          rw [if_neg (by rw [hF, Bool.and_false]; decide)]
        refine ⟨⟨j + 1, by omega⟩, by show T.length - (j + 1) < T.length - j; omega, th [] 7, rfl, rfl, rfl, rfl, rfl, rfl, ?_, ?_⟩
        · (repeat' first | exact trivial | exact rfl | refine And.intro ?_ ?_)
          exact (wrap_nat j (by omega)).symm
        · (repeat' first | exact trivial | exact rfl | refine And.intro ?_ ?_)
          show (padG (OI l T k) 0 l.length).set k ((okm l T k (pk l T k) (ak l T k) (j + 1) : Nat) : Int) = (padG (OI l T k) 0 l.length).set k ((okm l T k (pk l T k) (ak l T k) j : Nat) : Int)
          rw [hstep]
      have gj : ¬ j = 0 := fun e => by
        have g : ((j : Int) == 0) = false := g
        rw [e] at g; cases g
      have ew : IntKind.i64.wrap ((j : Int) - 1) = ((j - 1 : Nat) : Int) := by rw [wrapS _ ⟨by omega, by omega⟩]; omega
      have gb : (j == 0) = false := by simpa using gj
      intro _; refine ⟨show (0 : Int) ≤ IntKind.i64.wrap ((j : Int) - 1) by rw [ew]; omega, ?_⟩
      have eb : (Go.Vm.arith .and .i64 ((ak l T k : Nat) : Int) (IntKind.i64.wrap (1 * 2 ^ (min (IntKind.i64.wrap ((j : Int) - 1)).toNat IntKind.i64.bits))) != 0) = Nat.testBit (ak l T k) (j - 1) := by rw [ew, sh (j - 1) (by omega)]; exact and_bit (j - 1) (by omega) _ ba
      have hsel : (if tb T j then pk l T k else ak l T k) = ak l T k := if_neg (by rw [htb]; decide)
      intro _; refine ⟨fun g => ?_, fun g => ?_⟩
      rotate_left
      · have g : (Go.Vm.arith .and .i64 ((ak l T k : Nat) : Int) (IntKind.i64.wrap (1 * 2 ^ (min (IntKind.i64.wrap ((j : Int) - 1)).toNat IntKind.i64.bits))) != 0) = false := g
        rw [eb] at g
        have hstep : okm l T k (pk l T k) (ak l T k) (j + 1) = okm l T k (pk l T k) (ak l T k) j := by
          show (if ((j == 0 || Nat.testBit (if tb T j then pk l T k else ak l T k) (j - 1)) && FFb l T k j) = true then _ else _) = _
          rw [if_neg (by rw [hsel, g, gb]; simp)]
        refine ⟨⟨j + 1, by omega⟩, by show T.length - (j + 1) < T.length - j; omega, th [] 7, rfl, rfl, rfl, rfl, rfl, rfl, ?_, ?_⟩
        · (repeat' first | exact trivial | exact rfl | refine And.intro ?_ ?_)
          exact (wrap_nat j (by omega)).symm
        · (repeat' first | exact trivial | exact rfl | refine And.intro ?_ ?_)
          show (padG (OI l T k) 0 l.length).set k ((okm l T k (pk l T k) (ak l T k) (j + 1) : Nat) : Int) = (padG (OI l T k) 0 l.length).set k ((okm l T k (pk l T k) (ak l T k) j : Nat) : Int)
          rw [hstep]
      have gt : Nat.testBit (ak l T k) (j - 1) = true := by
        have g : (Go.Vm.arith .and .i64 ((ak l T k : Nat) : Int) (IntKind.i64.wrap (1 * 2 ^ (min (IntKind.i64.wrap ((j : Int) - 1)).toNat IntKind.i64.bits))) != 0) = true := g
        rw [eb] at g; exact g
      intro _
      refine call_pure [] (ful_ok (ni l (0 + k)) (np l (0 + k)) (nk l (0 + k)) (nc l (0 + k)) (nt l (0 + k)) (tk T (0 + j)) (tc T (0 + j)) (ti T (0 + j)) (tb T (0 + j))) rfl rfl rfl ?_ ?_ ?_
      · (repeat' first | exact trivial | exact rfl | refine And.intro ?_ ?_)
      · (repeat' first | exact trivial | exact rfl | refine And.intro ?_ ?_)
      intro v hv _
      subst hv
      intro _; refine ⟨fun g => ?_, fun g => ?_⟩
      · have hF : FFb l T k j = true := by
          have g : decide (FF (ni l (0 + k)) (nk l (0 + k)) (nc l (0 + k)) (tk T (0 + j)) (tc T (0 + j)) (ti T (0 + j))) = true := g
          rw [z, zj] at g; exact g
        have hstep : okm l T k (pk l T k) (ak l T k) (j + 1) = okm l T k (pk l T k) (ak l T k) j ||| 2 ^ j := by
          show (if ((j == 0 || Nat.testBit (if tb T j then pk l T k else ak l T k) (j - 1)) && FFb l T k j) = true then _ else _) = _
          rw [if_pos (by rw [hF, hsel, gt, Bool.or_true]; rfl)]
        intro _; refine ⟨i1, ?_⟩
        intro _; refine ⟨show (k : Int).toNat < ((padG (OI l T k) 0 l.length).set k _).length by rw [ls]; omega, ?_⟩
        intro _; refine ⟨show (0 : Int) ≤ (j : Int) by omega, ?_⟩
        intro _; refine ⟨i1, ?_⟩
        intro _; refine ⟨show (k : Int).toNat < ((padG (OI l T k) 0 l.length).set k _).length by rw [ls]; omega, ?_⟩
        intro _; refine ⟨by kernel_rfl, ?_⟩
        refine ⟨⟨j + 1, by omega⟩, by show T.length - (j + 1) < T.length - j; omega, th [] 7, rfl, rfl, rfl, rfl, rfl, rfl, ?_, ?_⟩
        · (repeat' first | exact trivial | exact rfl | refine And.intro ?_ ?_)
          exact (wrap_nat j (by omega)).symm
        · (repeat' first | exact trivial | exact rfl | refine And.intro ?_ ?_)
          show (padG (OI l T k) 0 l.length).set k ((okm l T k (pk l T k) (ak l T k) (j + 1) : Nat) : Int) = ((padG (OI l T k) 0 l.length).set k ((okm l T k (pk l T k) (ak l T k) j : Nat) : Int)).set k (Go.Vm.arith .or .i64 (((padG (OI l T k) 0 l.length).set k ((okm l T k (pk l T k) (ak l T k) j : Nat) : Int)).getD k 0) (IntKind.i64.wrap (1 * 2 ^ (min ((j : Int)).toNat IntKind.i64.bits))))
          rw [List.set_set, gs, sh j (by omega), or_bit j (by omega) _ (oj j (by omega)), hstep]
      have hF : FFb l T k j = false := by
        have g : decide (FF (ni l (0 + k)) (nk l (0 + k)) (nc l (0 + k)) (tk T (0 + j)) (tc T (0 + j)) (ti T (0 + j))) = false := g
        rw [z, zj] at g; exact g
      have hstep : okm l T k (pk l T k) (ak l T k) (j + 1) = okm l T k (pk l T k) (ak l T k) j := by
        show (if ((j == 0 || Nat.testBit (if tb T j then pk l T k else ak l T k) (j - 1)) && FFb l T k j) = true then _ else _) = _
        rw [if_neg (by rw [hF, Bool.and_false]; decide)]
      refine ⟨⟨j + 1, by omega⟩, by show T.length - (j + 1) < T.length - j; omega, th [] 7, rfl, rfl, rfl, rfl, rfl, rfl, ?_, ?_⟩
      · (repeat' first | exact trivial | exact rfl | refine And.intro ?_ ?_)
        exact (wrap_nat j (by omega)).symm
      · (repeat' first | exact trivial | exact rfl | refine And.intro ?_ ?_)
        show (padG (OI l T k) 0 l.length).set k ((okm l T k (pk l T k) (ak l T k) (j + 1) : Nat) : Int) = (padG (OI l T k) 0 l.length).set k ((okm l T k (pk l T k) (ak l T k) j : Nat) : Int)
        rw [hstep]
    have hjl := of_decide_eq_false (show decide ((j : Int) < (T.length : Int)) = false from g)
    obtain rfl : j = T.length := by omega
    have ew : IntKind.i64.wrap ((T.length : Int) - 1) = ((T.length - 1 : Nat) : Int) := by rw [wrapS _ ⟨by omega, by omega⟩]; omega
    have ik : (k : Int).toNat < ((padG (OI l T k) 0 l.length).set k ((okm l T k (pk l T k) (ak l T k) T.length : Nat) : Int)).length := by rw [ls]; omega
    intro _; refine ⟨i1, ?_⟩
    intro _; refine ⟨ik, ?_⟩
    intro _; refine ⟨i1, ?_⟩
    intro _; refine ⟨show (k : Int).toNat < (padG (AI l T k) 0 l.length).length by omega, ?_⟩
    intro _; refine ⟨i1, ?_⟩
    intro _; refine ⟨ik, ?_⟩
    intro _; refine ⟨show (0 : Int) ≤ IntKind.i64.wrap ((T.length : Int) - 1) by rw [ew]; omega, ?_⟩
    intro _; refine ⟨i1, ?_⟩
    intro _; refine ⟨show (k : Int).toNat < (padG (BI l T k) [D.b false] l.length).length by omega, ?_⟩
    intro _; refine ⟨by kernel_rfl, ?_⟩
    refine ⟨⟨k + 1, by omega⟩, by show l.length - (k + 1) < l.length - k; omega, th [] 6, rfl, rfl, rfl, rfl, rfl, rfl, ?_, ?_⟩
    · (repeat' first | exact trivial | exact rfl | refine And.intro ?_ ?_)
      exact ek
    · (repeat' first | exact trivial | exact rfl | refine And.intro ?_ ?_)
      · show padG (OI l T (k + 1)) 0 l.length = (padG (OI l T k) 0 l.length).set k ((om l T k : Nat) : Int)
        rw [padG_set lo hkn, OI_suc]
      · show padG (AI l T (k + 1)) 0 l.length = (padG (AI l T k) 0 l.length).set k (Go.Vm.arith .or .i64 ((ak l T k : Nat) : Int) (((padG (OI l T k) 0 l.length).set k ((om l T k : Nat) : Int)).getD k 0))
        rw [gs, or_two _ bo _ ba, padG_set la hkn, AI_suc]
      · show padG (BI l T (k + 1)) [D.b false] l.length = (padG (BI l T k) [D.b false] l.length).set k [D.b (Go.Vm.arith .and .i64 (((padG (OI l T k) 0 l.length).set k ((om l T k : Nat) : Int)).getD k 0) (IntKind.i64.wrap (1 * 2 ^ (min (IntKind.i64.wrap ((T.length : Int) - 1)).toNat IntKind.i64.bits))) != 0)]
        rw [gs, ew, sh (T.length - 1) (by omega), and_bit (T.length - 1) (by omega) _ bo, padG_set lb hkn]; rfl
  have g := of_decide_eq_false (show decide ((uq l l.length).getD (0 + (k : Int).toNat) 0 ≥ 0) = false from g)
  have c : k = 0 := by
    refine Decidable.byContradiction fun c => ?_
    rw [eu, if_neg c] at g; omega
  have eP : ((pk l T k : Nat) : Int) = 0 := by unfold pk; rw [if_pos c]; rfl
  have eA : ((ak l T k : Nat) : Int) = 0 := by unfold ak; rw [if_pos c]; rfl
  intro _
  refine loop2 tt_ok [54, 12, 13] [3] 7 (fun j : { j : Nat // j ≤ T.length } => [(54, .int .i64 (j.1 : Nat)), (12, .int .i64 ((pk l T k : Nat) : Int)), (13, .int .i64 ((ak l T k : Nat) : Int))]) (fun j => [(3, .arr [.int .i64] .own (.ints ((padG (OI l T k) 0 l.length).set k ((okm l T k (pk l T k) (ak l T k) j.1 : Nat) : Int))))]) (fun j => T.length - j.1) ⟨0, by omega⟩ ?_
  intro _
  refine ⟨⟨th [] 7, rfl, rfl, rfl, rfl, rfl, rfl, ?_, ?_⟩, ?_⟩
  · (repeat' first | exact trivial | exact rfl | refine And.intro ?_ ?_)
    · exact eP
    · exact eA
  · (repeat' first | exact trivial | exact rfl | refine And.intro ?_ ?_)
    show (padG (OI l T k) 0 l.length).set k ((0 : Nat) : Int) = padG (OI l T k) 0 l.length
    exact padG_zero lo hkn
  intro ⟨j, hj⟩
  have zj : 0 + j = j := Nat.zero_add j
  intro _; refine ⟨fun g => ?_, fun g => ?_⟩
  · have hjl := of_decide_eq_true (show decide ((j : Int) < (T.length : Int)) = true from g)
    intro _; refine ⟨show 0 ≤ (j : Int) ∧ (j : Int) < (T.length : Int) by omega, ?_⟩
    intro _; refine ⟨show 0 + (j : Int).toNat < T.length by omega, ?_⟩
    intro _; refine ⟨fun g => ?_, fun g => ?_⟩
    · have htb : tb T j = true := by
        have g : tb T (0 + j) = true := g
        rw [zj] at g; exact g
      intro _; refine ⟨fun g => ?_, fun g => ?_⟩
      · have gj : (j : Int) = 0 := eq_of_beq (show ((j : Int) == 0) = true from g)
        have gj : j = 0 := by omega
        intro _
        refine call_pure [] (ful_ok (ni l (0 + k)) (np l (0 + k)) (nk l (0 + k)) (nc l (0 + k)) (nt l (0 + k)) (tk T (0 + j)) (tc T (0 + j)) (ti T (0 + j)) (tb T (0 + j))) rfl rfl rfl ?_ ?_ ?_
        · (repeat' first | exact trivial | exact rfl | refine And.intro ?_ ?_)
        · (repeat' first | exact trivial | exact rfl | refine And.intro ?_ ?_)
        intro v hv _
        subst hv
        intro _; refine ⟨fun g => ?_, fun g => ?_⟩
        · have hF : FFb l T k j = true := by
            have g : decide (FF (ni l (0 + k)) (nk l (0 + k)) (nc l (0 + k)) (tk T (0 + j)) (tc T (0 + j)) (ti T (0 + j))) = true := g
            rw [z, zj] at g; exact g
          have hstep : okm l T k (pk l T k) (ak l T k) (j + 1) = okm l T k (pk l T k) (ak l T k) j ||| 2 ^ j := by
            show (if ((j == 0 || Nat.testBit (if tb T j then pk l T k else ak l T k) (j - 1)) && FFb l T k j) = true then _ else _) = _
            rw [if_pos (by rw [hF, gj, show ((0 : Nat) == 0) = true from rfl, Bool.true_or]; rfl)]
          intro _; refine ⟨i1, ?_⟩
          intro _; refine ⟨show (k : Int).toNat < ((padG (OI l T k) 0 l.length).set k _).length by rw [ls]; omega, ?_⟩
          intro _; refine ⟨show (0 : Int) ≤ (j : Int) by omega, ?_⟩
          intro _; refine ⟨i1, ?_⟩
          intro _; refine ⟨show (k : Int).toNat < ((padG (OI l T k) 0 l.length).set k _).length by rw [ls]; omega, ?_⟩
          intro _; refine ⟨by kernel_rfl, ?_⟩
          refine ⟨⟨j + 1, by omega⟩, by show T.length - (j + 1) < T.length - j; omega, th [] 7, rfl, rfl, rfl, rfl, rfl, rfl, ?_, ?_⟩
          · (repeat' first | exact trivial | exact rfl | refine And.intro ?_ ?_)
            exact (wrap_nat j (by omega)).symm
          · (repeat' first | exact trivial | exact rfl | refine And.intro ?_ ?_)
            show (padG (OI l T k) 0 l.length).set k ((okm l T k (pk l T k) (ak l T k) (j + 1) : Nat) : Int) = ((padG (OI l T k) 0 l.length).set k ((okm l T k (pk l T k) (ak l T k) j : Nat) : Int)).set k (Go.Vm.arith .or .i64 (((padG (OI l T k) 0 l.length).set k ((okm l T k (pk l T k) (ak l T k) j : Nat) : Int)).getD k 0) (IntKind.i64.wrap (1 * 2 ^ (min ((j : Int)).toNat IntKind.i64.bits))))
            rw [List.set_set, gs, sh j (by omega), or_bit j (by omega) _ (oj j (by omega)), hstep]
        have hF : FFb l T k j = false := by
          have g : decide (FF (ni l (0 + k)) (nk l (0 + k)) (nc l (0 + k)) (tk T (0 + j)) (tc T (0 + j)) (ti T (0 + j))) = false := g
          rw [z, zj] at g; exact g
        have hstep : okm l T k (pk l T k) (ak l T k) (j + 1) = okm l T k (pk l T k) (ak l T k) j := by
          show (if ((j == 0 || Nat.testBit (if tb T j then pk l T k else ak l T k) (j - 1)) && FFb l T k j) = true then _ else _) = _
          rw [if_neg (by rw [hF, Bool.and_false]; decide)]
        refine ⟨⟨j + 1, by omega⟩, by show T.length - (j + 1) < T.length - j; omega, th [] 7, rfl, rfl, rfl, rfl, rfl, rfl, ?_, ?_⟩
        · (repeat' first | exact trivial | exact rfl | refine And.intro ?_ ?_)
          exact (wrap_nat j (by omega)).symm
        · (repeat' first | exact trivial | exact rfl | refine And.intro ?_ ?_)
          show (padG (OI l T k) 0 l.length).set k ((okm l T k (pk l T k) (ak l T k) (j + 1) : Nat) : Int) = (padG (OI l T k) 0 l.length).set k ((okm l T k (pk l T k) (ak l T k) j : Nat) : Int)
          rw [hstep]
      have gj : ¬ j = 0 := fun e => by
        have g : ((j : Int) == 0) = false := g
        rw [e] at g; cases g
      have ew : IntKind.i64.wrap ((j : Int) - 1) = ((j - 1 : Nat) : Int) := by rw [wrapS _ ⟨by omega, by omega⟩]; omega
      have gb : (j == 0) = false := by simpa using gj
      intro _; refine ⟨show (0 : Int) ≤ IntKind.i64.wrap ((j : Int) - 1) by rw [ew]; omega, ?_⟩
      have eb : (Go.Vm.arith .and .i64 ((pk l T k : Nat) : Int) (IntKind.i64.wrap (1 * 2 ^ (min (IntKind.i64.wrap ((j : Int) - 1)).toNat IntKind.i64.bits))) != 0) = Nat.testBit (pk l T k) (j - 1) := by rw [ew, sh (j - 1) (by omega)]; exact and_bit (j - 1) (by omega) _ bp
      have hsel : (if tb T j then pk l T k else ak l T k) = pk l T k := if_pos (by rw [htb])
      intro _; refine ⟨fun g => ?_, fun g => ?_⟩
      rotate_left
      · have g : (Go.Vm.arith .and .i64 ((pk l T k : Nat) : Int) (IntKind.i64.wrap (1 * 2 ^ (min (IntKind.i64.wrap ((j : Int) - 1)).toNat IntKind.i64.bits))) != 0) = false := g
        rw [eb] at g
        have hstep : okm l T k (pk l T k) (ak l T k) (j + 1) = okm l T k (pk l T k) (ak l T k) j := by
          show (if ((j == 0 || Nat.testBit (if tb T j then pk l T k else ak l T k) (j - 1)) && FFb l T k j) = true then _ else _) = _
          rw [if_neg (by rw [hsel, g, gb]; simp)]
        refine ⟨⟨j + 1, by omega⟩, by show T.length - (j + 1) < T.length - j; omega, th [] 7, rfl, rfl, rfl, rfl, rfl, rfl, ?_, ?_⟩
        · (repeat' first | exact trivial | exact rfl | refine And.intro ?_ ?_)
          exact (wrap_nat j (by omega)).symm
        · (repeat' first | exact trivial | exact rfl | refine And.intro ?_ ?_)
          show (padG (OI l T k) 0 l.length).set k ((okm l T k (pk l T k) (ak l T k) (j + 1) : Nat) : Int) = (padG (OI l T k) 0 l.length).set k ((okm l T k (pk l T k) (ak l T k) j : Nat) : Int)
          rw [hstep]
      have gt : Nat.testBit (pk l T k) (j - 1) = true := by
        have g : (Go.Vm.arith .and .i64 ((pk l T k : Nat) : Int) (IntKind.i64.wrap (1 * 2 ^ (min (IntKind.i64.wrap ((j : Int) - 1)).toNat IntKind.i64.bits))) != 0) = true := g
        rw [eb] at g; exact g
      intro _
      refine call_pure [] (ful_ok (ni l (0 + k)) (np l (0 + k)) (nk l (0 + k)) (nc l (0 + k)) (nt l (0 + k)) (tk T (0 + j)) (tc T (0 + j)) (ti T (0 + j)) (tb T (0 + j))) rfl rfl rfl ?_ ?_ ?_
      · (repeat' first | exact trivial | exact rfl | refine And.intro ?_ ?_)
      · (repeat' first | exact trivial | exact rfl | refine And.intro ?_ ?_)
      intro v hv _
      subst hv
      intro _; refine ⟨fun g => ?_, fun g => ?_⟩
      · have hF : FFb l T k j = true := by
          have g : decide (FF (ni l (0 + k)) (nk l (0 + k)) (nc l (0 + k)) (tk T (0 + j)) (tc T (0 + j)) (ti T (0 + j))) = true := g
          rw [z, zj] at g; exact g
        have hstep : okm l T k (pk l T k) (ak l T k) (j + 1) = okm l T k (pk l T k) (ak l T k) j ||| 2 ^ j := by
          show (if ((j == 0 || Nat.testBit (if tb T j then pk l T k else ak l T k) (j - 1)) && FFb l T k j) = true then _ else _) = _
          rw [if_pos (by rw [hF, hsel, gt, Bool.or_true]; rfl)]
        intro _; refine ⟨i1, ?_⟩
        intro _; refine ⟨show (k : Int).toNat < ((padG (OI l T k) 0 l.length).set k _).length by rw [ls]; omega, ?_⟩
        intro _; refine ⟨show (0 : Int) ≤ (j : Int) by omega, ?_⟩
        intro _; refine ⟨i1, ?_⟩
        intro _; refine ⟨show (k : Int).toNat < ((padG (OI l T k) 0 l.length).set k _).length by rw [ls]; omega, ?_⟩
        intro _; refine ⟨by kernel_rfl, ?_⟩
        refine ⟨⟨j + 1, by omega⟩, by show T.length - (j + 1) < T.length - j; omega, th [] 7, rfl, rfl, rfl, rfl, rfl, rfl, ?_, ?_⟩
        · (repeat' first | exact trivial | exact rfl | refine And.intro ?_ ?_)
          exact (wrap_nat j (by omega)).symm
        · (repeat' first | exact trivial | exact rfl | refine And.intro ?_ ?_)
          show (padG (OI l T k) 0 l.length).set k ((okm l T k (pk l T k) (ak l T k) (j + 1) : Nat) : Int) = ((padG (OI l T k) 0 l.length).set k ((okm l T k (pk l T k) (ak l T k) j : Nat) : Int)).set k (Go.Vm.arith .or .i64 (((padG (OI l T k) 0 l.length).set k ((okm l T k (pk l T k) (ak l T k) j : Nat) : Int)).getD k 0) (IntKind.i64.wrap (1 * 2 ^ (min ((j : Int)).toNat IntKind.i64.bits))))
          rw [List.set_set, gs, sh j (by omega), or_bit j (by omega) _ (oj j (by omega)), hstep]
      have hF : FFb l T k j = false := by
        have g : decide (FF (ni l (0 + k)) (nk l (0 + k)) (nc l (0 + k)) (tk T (0 + j)) (tc T (0 + j)) (ti T (0 + j))) = false := g
        rw [z, zj] at g; exact g
      have hstep : okm l T k (pk l T k) (ak l T k) (j + 1) = okm l T k (pk l T k) (ak l T k) j := by
        show (if ((j == 0 || Nat.testBit (if tb T j then pk l T k else ak l T k) (j - 1)) && FFb l T k j) = true then _ else _) = _
        rw [if_neg (by rw [hF, Bool.and_false]; decide)]
      refine ⟨⟨j + 1, by omega⟩, by show T.length - (j + 1) < T.length - j; omega, th [] 7, rfl, rfl, rfl, rfl, rfl, rfl, ?_, ?_⟩
      · (repeat' first | exact trivial | exact rfl | refine And.intro ?_ ?_)
        exact (wrap_nat j (by omega)).symm
      · (repeat' first | exact trivial | exact rfl | refine And.intro ?_ ?_)
        show (padG (OI l T k) 0 l.length).set k ((okm l T k (pk l T k) (ak l T k) (j + 1) : Nat) : Int) = (padG (OI l T k) 0 l.length).set k ((okm l T k (pk l T k) (ak l T k) j : Nat) : Int)
        rw [hstep]
    have htb : tb T j = false := by
      have g : tb T (0 + j) = false := g
      rw [zj] at g; exact g
    intro _; refine ⟨fun g => ?_, fun g => ?_⟩
    · have gj : (j : Int) = 0 := eq_of_beq (show ((j : Int) == 0) = true from g)
      have gj : j = 0 := by omega
      intro _
      refine call_pure [] (ful_ok (ni l (0 + k)) (np l (0 + k)) (nk l (0 + k)) (nc l (0 + k)) (nt l (0 + k)) (tk T (0 + j)) (tc T (0 + j)) (ti T (0 + j)) (tb T (0 + j))) rfl rfl rfl ?_ ?_ ?_
      · (repeat' first | exact trivial | exact rfl | refine And.intro ?_ ?_)
      · (repeat' first | exact trivial | exact rfl | refine And.intro ?_ ?_)
      intro v hv _
      subst hv
      intro _; refine ⟨fun g => ?_, fun g => ?_⟩
      · have hF : FFb l T k j = true := by
          have g : decide (FF (ni l (0 + k)) (nk l (0 + k)) (nc l (0 + k)) (tk T (0 + j)) (tc T (0 + j)) (ti T (0 + j))) = true := g
          rw [z, zj] at g; exact g
        have hstep : okm l T k (pk l T k) (ak l T k) (j + 1) = okm l T k (pk l T k) (ak l T k) j ||| 2 ^ j := by
          show (if ((j == 0 || Nat.testBit (if tb T j then pk l T k else ak l T k) (j - 1)) && FFb l T k j) = true then _ else _) = _
          rw [if_pos (by rw [hF, gj, show ((0 : Nat) == 0) = true from rfl, Bool.true_or]; rfl)]
        intro _; refine ⟨i1, ?_⟩
        intro _; refine ⟨show (k : Int).toNat < ((padG (OI l T k) 0 l.length).set k _).length by rw [ls]; omega, ?_⟩
        intro _; refine ⟨show (0 : Int) ≤ (j : Int) by omega, ?_⟩
        intro _; refine ⟨i1, ?_⟩
        intro _; refine ⟨show (k : Int).toNat < ((padG (OI l T k) 0 l.length).set k _).length by rw [ls]; omega, ?_⟩
        intro _; refine ⟨by kernel_rfl, ?_⟩
        refine ⟨⟨j + 1, by omega⟩, by show T.length - (j + 1) < T.length - j; omega, th [] 7, rfl, rfl, rfl, rfl, rfl, rfl, ?_, ?_⟩
        · (repeat' first | exact trivial | exact rfl | refine And.intro ?_ ?_)
          exact (wrap_nat j (by omega)).symm
        · (repeat' first | exact trivial | exact rfl | refine And.intro ?_ ?_)
          show (padG (OI l T k) 0 l.length).set k ((okm l T k (pk l T k) (ak l T k) (j + 1) : Nat) : Int) = ((padG (OI l T k) 0 l.length).set k ((okm l T k (pk l T k) (ak l T k) j : Nat) : Int)).set k (Go.Vm.arith .or .i64 (((padG (OI l T k) 0 l.length).set k ((okm l T k (pk l T k) (ak l T k) j : Nat) : Int)).getD k 0) (IntKind.i64.wrap (1 * 2 ^ (min ((j : Int)).toNat IntKind.i64.bits))))
          rw [List.set_set, gs, sh j (by omega), or_bit j (by omega) _ (oj j (by omega)), hstep]
      have hF : FFb l T k j = false := by
        have g : decide (FF (ni l (0 + k)) (nk l (0 + k)) (nc l (0 + k)) (tk T (0 + j)) (tc T (0 + j)) (ti T (0 + j))) = false := g
        rw [z, zj] at g; exact g
      have hstep : okm l T k (pk l T k) (ak l T k) (j + 1) = okm l T k (pk l T k) (ak l T k) j := by
        show (if ((j == 0 || Nat.testBit (if tb T j then pk l T k else ak l T k) (j - 1)) && FFb l T k j) = true then _ else _) = _
        rw [if_neg (by rw [hF, Bool.and_false]; decide)]
      refine ⟨⟨j + 1, by omega⟩, by show T.length - (j + 1) < T.length - j; omega, th [] 7, rfl, rfl, rfl, rfl, rfl, rfl, ?_, ?_⟩
      · (repeat' first | exact trivial | exact rfl | refine And.intro ?_ ?_)
        exact (wrap_nat j (by omega)).symm
      · (repeat' first | exact trivial | exact rfl | refine And.intro ?_ ?_)
        show (padG (OI l T k) 0 l.length).set k ((okm l T k (pk l T k) (ak l T k) (j + 1) : Nat) : Int) = (padG (OI l T k) 0 l.length).set k ((okm l T k (pk l T k) (ak l T k) j : Nat) : Int)
        rw [hstep]
    have gj : ¬ j = 0 := fun e => by
      have g : ((j : Int) == 0) = false := g
      rw [e] at g; cases g
    have ew : IntKind.i64.wrap ((j : Int) - 1) = ((j - 1 : Nat) : Int) := by rw [wrapS _ ⟨by omega, by omega⟩]; omega
    have gb : (j == 0) = false := by simpa using gj
    intro _; refine ⟨show (0 : Int) ≤ IntKind.i64.wrap ((j : Int) - 1) by rw [ew]; omega, ?_⟩
    have eb : (Go.Vm.arith .and .i64 ((ak l T k : Nat) : Int) (IntKind.i64.wrap (1 * 2 ^ (min (IntKind.i64.wrap ((j : Int) - 1)).toNat IntKind.i64.bits))) != 0) = Nat.testBit (ak l T k) (j - 1) := by rw [ew, sh (j - 1) (by omega)]; exact and_bit (j - 1) (by omega) _ ba
    have hsel : (if tb T j then pk l T k else ak l T k) = ak l T k := if_neg (by rw [htb]; decide)
    intro _; refine ⟨fun g => ?_, fun g => ?_⟩
    rotate_left
    · have g : (Go.Vm.arith .and .i64 ((ak l T k : Nat) : Int) (IntKind.i64.wrap (1 * 2 ^ (min (IntKind.i64.wrap ((j : Int) - 1)).toNat IntKind.i64.bits))) != 0) = false := g
      rw [eb] at g
      have hstep : okm l T k (pk l T k) (ak l T k) (j + 1) = okm l T k (pk l T k) (ak l T k) j := by
        show (if ((j == 0 || Nat.testBit (if tb T j then pk l T k else ak l T k) (j - 1)) && FFb l T k j) = true then _ else _) = _
        rw [if_neg (by rw [hsel, g, gb]; simp)]
      refine ⟨⟨j + 1, by omega⟩, by show T.length - (j + 1) < T.length - j; omega, th [] 7, rfl, rfl, rfl, rfl, rfl, rfl, ?_, ?_⟩
      · (repeat' first | exact trivial | exact rfl | refine And.intro ?_ ?_)
        exact (wrap_nat j (by omega)).symm
      · (repeat' first | exact trivial | exact rfl | refine And.intro ?_ ?_)
        show (padG (OI l T k) 0 l.length).set k ((okm l T k (pk l T k) (ak l T k) (j + 1) : Nat) : Int) = (padG (OI l T k) 0 l.length).set k ((okm l T k (pk l T k) (ak l T k) j : Nat) : Int)
        rw [hstep]
    have gt : Nat.testBit (ak l T k) (j - 1) = true := by
      have g : (Go.Vm.arith .and .i64 ((ak l T k : Nat) : Int) (IntKind.i64.wrap (1 * 2 ^ (min (IntKind.i64.wrap ((j : Int) - 1)).toNat IntKind.i64.bits))) != 0) = true := g
      rw [eb] at g; exact g
    intro _
    refine call_pure [] (ful_ok (ni l (0 + k)) (np l (0 + k)) (nk l (0 + k)) (nc l (0 + k)) (nt l (0 + k)) (tk T (0 + j)) (tc T (0 + j)) (ti T (0 + j)) (tb T (0 + j))) rfl rfl rfl ?_ ?_ ?_
    · (repeat' first | exact trivial | exact rfl | refine And.intro ?_ ?_)
    · (repeat' first | exact trivial | exact rfl | refine And.intro ?_ ?_)
    intro v hv _
    subst hv
    intro _; refine ⟨fun g => ?_, fun g => ?_⟩
    · have hF : FFb l T k j = true := by
        have g : decide (FF (ni l (0 + k)) (nk l (0 + k)) (nc l (0 + k)) (tk T (0 + j)) (tc T (0 + j)) (ti T (0 + j))) = true := g
        rw [z, zj] at g; exact g
      have hstep : okm l T k (pk l T k) (ak l T k) (j + 1) = okm l T k (pk l T k) (ak l T k) j ||| 2 ^ j := by
        show (if ((j == 0 || Nat.testBit (if tb T j then pk l T k else ak l T k) (j - 1)) && FFb l T k j) = true then _ else _) = _
        rw [if_pos (by rw [hF, hsel, gt, Bool.or_true]; rfl)]
      intro _; refine ⟨i1, ?_⟩
      intro _; refine ⟨show (k : Int).toNat < ((padG (OI l T k) 0 l.length).set k _).length by rw [ls]; omega, ?_⟩
      intro _; refine ⟨show (0 : Int) ≤ (j : Int) by omega, ?_⟩
      intro _; refine ⟨i1, ?_⟩
      intro _; refine ⟨show (k : Int).toNat < ((padG (OI l T k) 0 l.length).set k _).length by rw [ls]; omega, ?_⟩
      intro _; refine ⟨by kernel_rfl, ?_⟩
      refine ⟨⟨j + 1, by omega⟩, by show T.length - (j + 1) < T.length - j; omega, th [] 7, rfl, rfl, rfl, rfl, rfl, rfl, ?_, ?_⟩
      · (repeat' first | exact trivial | exact rfl | refine And.intro ?_ ?_)
        exact (wrap_nat j (by omega)).symm
      · (repeat' first | exact trivial | exact rfl | refine And.intro ?_ ?_)
        show (padG (OI l T k) 0 l.length).set k ((okm l T k (pk l T k) (ak l T k) (j + 1) : Nat) : Int) = ((padG (OI l T k) 0 l.length).set k ((okm l T k (pk l T k) (ak l T k) j : Nat) : Int)).set k (Go.Vm.arith .or .i64 (((padG (OI l T k) 0 l.length).set k ((okm l T k (pk l T k) (ak l T k) j : Nat) : Int)).getD k 0) (IntKind.i64.wrap (1 * 2 ^ (min ((j : Int)).toNat IntKind.i64.bits))))
        rw [List.set_set, gs, sh j (by omega), or_bit j (by omega) _ (oj j (by omega)), hstep]
    have hF : FFb l T k j = false := by
      have g : decide (FF (ni l (0 + k)) (nk l (0 + k)) (nc l (0 + k)) (tk T (0 + j)) (tc T (0 + j)) (ti T (0 + j))) = false := g
      rw [z, zj] at g; exact g
    have hstep : okm l T k (pk l T k) (ak l T k) (j + 1) = okm l T k (pk l T k) (ak l T k) j := by
      show (if ((j == 0 || Nat.testBit (if tb T j then pk l T k else ak l T k) (j - 1)) && FFb l T k j) = true then _ else _) = _
      rw [if_neg (by rw [hF, Bool.and_false]; decide)]
    refine ⟨⟨j + 1, by omega⟩, by show T.length - (j + 1) < T.length - j; omega, th [] 7, rfl, rfl, rfl, rfl, rfl, rfl, ?_, ?_⟩
    · (repeat' first | exact trivial | exact rfl | refine And.intro ?_ ?_)
      exact (wrap_nat j (by omega)).symm
    · (repeat' first | exact trivial | exact rfl | refine And.intro ?_ ?_)
      show (padG (OI l T k) 0 l.length).set k ((okm l T k (pk l T k) (ak l T k) (j + 1) : Nat) : Int) = (padG (OI l T k) 0 l.length).set k ((okm l T k (pk l T k) (ak l T k) j : Nat) : Int)
      rw [hstep]
  have hjl := of_decide_eq_false (show decide ((j : Int) < (T.length : Int)) = false from g)
  obtain rfl : j = T.length := by omega
  have ew : IntKind.i64.wrap ((T.length : Int) - 1) = ((T.length - 1 : Nat) : Int) := by rw [wrapS _ ⟨by omega, by omega⟩]; omega
  have ik : (k : Int).toNat < ((padG (OI l T k) 0 l.length).set k ((okm l T k (pk l T k) (ak l T k) T.length : Nat) : Int)).length := by rw [ls]; omega
  intro _; refine ⟨i1, ?_⟩
  intro _; refine ⟨ik, ?_⟩
  intro _; refine ⟨i1, ?_⟩
  intro _; refine ⟨show (k : Int).toNat < (padG (AI l T k) 0 l.length).length by omega, ?_⟩
  intro _; refine ⟨i1, ?_⟩
  intro _; refine ⟨ik, ?_⟩
  intro _; refine ⟨show (0 : Int) ≤ IntKind.i64.wrap ((T.length : Int) - 1) by rw [ew]; omega, ?_⟩
  intro _; refine ⟨i1, ?_⟩
  intro _; refine ⟨show (k : Int).toNat < (padG (BI l T k) [D.b false] l.length).length by omega, ?_⟩
  intro _; refine ⟨by kernel_rfl, ?_⟩
  refine ⟨⟨k + 1, by omega⟩, by show l.length - (k + 1) < l.length - k; omega, th [] 6, rfl, rfl, rfl, rfl, rfl, rfl, ?_, ?_⟩
  · (repeat' first | exact trivial | exact rfl | refine And.intro ?_ ?_)
    exact ek
  · (repeat' first | exact trivial | exact rfl | refine And.intro ?_ ?_)
    · show padG (OI l T (k + 1)) 0 l.length = (padG (OI l T k) 0 l.length).set k ((om l T k : Nat) : Int)
      rw [padG_set lo hkn, OI_suc]
    · show padG (AI l T (k + 1)) 0 l.length = (padG (AI l T k) 0 l.length).set k (Go.Vm.arith .or .i64 ((ak l T k : Nat) : Int) (((padG (OI l T k) 0 l.length).set k ((om l T k : Nat) : Int)).getD k 0))
      rw [gs, or_two _ bo _ ba, padG_set la hkn, AI_suc]
    · show padG (BI l T (k + 1)) [D.b false] l.length = (padG (BI l T k) [D.b false] l.length).set k [D.b (Go.Vm.arith .and .i64 (((padG (OI l T k) 0 l.length).set k ((om l T k : Nat) : Int)).getD k 0) (IntKind.i64.wrap (1 * 2 ^ (min (IntKind.i64.wrap ((T.length : Int) - 1)).toNat IntKind.i64.bits))) != 0)]
      rw [gs, ew, sh (T.length - 1) (by omega), and_bit (T.length - 1) (by omega) _ bo, padG_set lb hkn]; rfl
def il (l T : Rws) : Nat → List Int
  | 0 => []
  | k + 1 => if mt l T k = true then il l T k ++ [ni l k] else il l T k
theorem il_mem {l T : Rws} {x : Int} : ∀ k, x ∈ il l T k ↔ ∃ i, i < k ∧ mt l T i = true ∧ x = ni l i
  | 0 => ⟨fun h => (List.not_mem_nil h).elim, fun ⟨i, h, _⟩ => by omega⟩
  | k + 1 => by
    have ih := il_mem (l := l) (T := T) (x := x) k
    by_cases c : mt l T k = true
    · rw [show il l T (k + 1) = il l T k ++ [ni l k] from if_pos c, List.mem_append, List.mem_singleton, ih]
      constructor
      · rintro (⟨i, h1, h2⟩ | h)
        · exact ⟨i, by omega, h2⟩
        · exact ⟨k, by omega, c, h⟩
      · rintro ⟨i, h1, h2, h3⟩
        by_cases d : i = k
        · subst d; exact .inr h3
        · exact .inl ⟨i, by omega, h2, h3⟩
    · rw [show il l T (k + 1) = il l T k from if_neg c, ih]
      constructor
      · rintro ⟨i, h1, h2⟩; exact ⟨i, by omega, h2⟩
      · rintro ⟨i, h1, h2, h3⟩
        by_cases d : i = k
        · subst d; exact absurd h2 c
        · exact ⟨i, by omega, h2, h3⟩
theorem il_len (l T : Rws) : ∀ k, (il l T k).length ≤ k
  | 0 => Nat.le_refl _
  | k + 1 => by
    have ih := il_len l T k
    by_cases c : mt l T k = true
    · rw [show il l T (k + 1) = il l T k ++ [ni l k] from if_pos c, List.length_append]; show (il l T k).length + 1 ≤ _; omega
    · rw [show il l T (k + 1) = il l T k from if_neg c]; omega
theorem BI_get (l T : Rws) : ∀ k i, i < k → (BI l T k).getD i [] = [D.b (mt l T i)]
  | 0, i, h => by omega
  | k + 1, i, h => by
    show (BI l T k ++ [[D.b (mt l T k)]]).getD i [] = _
    have hl := BI_len l T k
    by_cases c : i = k
    · subst c
      rw [List.getD_eq_getElem?_getD, List.getElem?_append_right (by omega), hl, Nat.sub_self]; rfl
    · rw [List.getD_eq_getElem?_getD, List.getElem?_append_left (by omega), ← List.getD_eq_getElem?_getD]
      exact BI_get l T k i (by omega)
set_option maxHeartbeats 4000000 in
theorem sel_ok (l T : Rws) (hR : RV l) (hT : Tv T) (hs : ∀ i, i < l.length → (nt l i).length ≤ 9223372036854775807) : SemF Try.prog 16 [.slc 0 5 0 l.length, .slc 1 4 0 T.length] ⟨2, 2, [(0, .arr [.int .i64, .int .i64, .int .i64, .int .i64, .str] .rd (.recs l)), (1, .arr [.int .i64, .int .i64, .int .i64, .bool] .rd (.recs T))]⟩ (fun v h' => v = .tup [.grw 2 (il l T l.length).length, .int .i64 0] ∧ h' = ⟨3, 2, [(2, .arr [.int .i64] .grow (.ints (il l T l.length)))]⟩) := by
  have n1 := hR.1.1
  have n2 := hR.1.2
  have t8 := hT.1.1.2
  refine SemF.ret ?_
  refine enter tt_ok Try.func16 (nt := 39) (cd := body Try.f16) rfl rfl rfl rfl ?_
  intro _
  refine call_pure [(0, some 0)] (valid2_ok l (by omega) hs) rfl rfl rfl ?_ ?_ ?_
  · (repeat' first | exact trivial | exact rfl | refine And.intro ?_ ?_)
  · (repeat' first | exact trivial | exact rfl | refine And.intro ?_ ?_)
  intro v hv _
  subst hv
  intro _; refine ⟨fun g => ?_, fun g => ?_⟩
  · exfalso
    have g : (!decide (RV l)) = true := g
    rw [decide_eq_true hR] at g; cases g
  intro _
  refine call_pure [(0, some 1)] (valid_ok T (by omega)) rfl rfl rfl ?_ ?_ ?_
  · (repeat' first | exact trivial | exact rfl | refine And.intro ?_ ?_)
  · (repeat' first | exact trivial | exact rfl | refine And.intro ?_ ?_)
  intro v hv _
  subst hv
  intro _; refine ⟨fun g => ?_, fun g => ?_⟩
  · exfalso
    have g : (!decide (Tv T)) = true := g
    rw [decide_eq_true hT] at g; cases g
  intro _
  refine call_new [(0, some 0)] (parents_ok l hR) rfl rfl rfl rfl ?_ ?_ ?_
  · (repeat' first | exact trivial | exact rfl | refine And.intro ?_ ?_)
  · (repeat' first | exact trivial | exact rfl | refine And.intro ?_ ?_)
  intro v h' hv
  obtain ⟨rfl, rfl⟩ := hv
  refine ⟨[(2, some 1)], 3, [(2, .arr [.int .i64] .own (.ints (uq l l.length)))], .grw 2 l.length, rfl, rfl, rfl, rfl, rfl, ?_, ?_, ?_⟩
  · (repeat' first | exact trivial | exact rfl | refine And.intro ?_ ?_)
  · (repeat' first | exact trivial | exact rfl | refine And.intro ?_ ?_)
  intro _
  refine call_new [(0, some 0), (1, some 2), (2, some 1)] (all_ok l T hR hT) rfl rfl rfl rfl ?_ ?_ ?_
  · (repeat' first | exact trivial | exact rfl | refine And.intro ?_ ?_)
  · (repeat' first | exact trivial | exact rfl | refine And.intro ?_ ?_)
  intro v h' hv
  obtain ⟨rfl, rfl⟩ := hv
  refine ⟨[(3, some 3)], 4, [(3, .arr [.bool] .own (.recs (BI l T l.length)))], .grw 3 l.length, rfl, rfl, rfl, rfl, rfl, ?_, ?_, ?_⟩
  · (repeat' first | exact trivial | exact rfl | refine And.intro ?_ ?_)
  · (repeat' first | exact trivial | exact rfl | refine And.intro ?_ ?_)
  intro _
  refine loop2 tt_ok [23, 6] [4] 5 (fun k : { k : Nat // k ≤ l.length } => [(23, .int .i64 (k.1 : Nat)), (6, .grw 4 (il l T k.1).length)]) (fun k => [(4, .arr [.int .i64] .grow (.ints (il l T k.1)))]) (fun k => l.length - k.1) ⟨0, by omega⟩ ?_
  intro _
  refine ⟨⟨th [(4, none)] 5, rfl, rfl, rfl, rfl, rfl, rfl, ?_, ?_⟩, ?_⟩
  · (repeat' first | exact trivial | exact rfl | refine And.intro ?_ ?_)
  · (repeat' first | exact trivial | exact rfl | refine And.intro ?_ ?_)
  intro ⟨k, hk⟩
  have z : 0 + k = k := Nat.zero_add k
  have lil := il_len l T k
  intro _; refine ⟨fun g => ?_, fun g => ?_⟩
  rotate_left
  · have hkl := of_decide_eq_false (show decide ((k : Int) < (l.length : Int)) = false from g)
    obtain rfl : k = l.length := by omega
    intro _
    refine ⟨[(2, some 4)], .tup [.grw 2 (il l T l.length).length, .int .i64 0], ⟨3, 2, [(2, .arr [.int .i64] .grow (.ints (il l T l.length)))]⟩, rfl, rfl, rfl, rfl, ?_, ?_, ⟨rfl, rfl⟩⟩
    · (repeat' first | exact trivial | exact rfl | refine And.intro ?_ ?_)
    · (repeat' first | exact trivial | exact rfl | refine And.intro ?_ ?_)
  have hkl := of_decide_eq_true (show decide ((k : Int) < (l.length : Int)) = true from g)
  have i1 : 0 ≤ (k : Int) ∧ (k : Int) < (l.length : Int) := by omega
  have lb := BI_len l T l.length
  have eB : (((BI l T l.length).getD (k : Int).toNat []).getD 0 (D.n 0)).bool = mt l T k := by
    rw [Int.toNat_natCast, BI_get l T l.length k (by omega)]; rfl
  intro _; refine ⟨i1, ?_⟩
  intro _; refine ⟨show (k : Int).toNat < (BI l T l.length).length by omega, ?_⟩
  intro _; refine ⟨fun g => ?_, fun g => ?_⟩
  · have g : (((BI l T l.length).getD (k : Int).toNat []).getD 0 (D.n 0)).bool = true := g
    rw [eB] at g
    have e1 : il l T (k + 1) = il l T k ++ [ni l k] := if_pos g
    intro _; refine ⟨i1, ?_⟩
    intro _; refine ⟨show 0 + (k : Int).toNat < l.length by omega, ?_⟩
    intro _; refine ⟨rfl, ?_⟩
    intro _; refine ⟨fun g3 => by simp at g3, fun _ => ?_⟩
    refine ⟨⟨rfl, by show (il l T k).length + 1 ≤ _; omega, by show ((il l T k).length + 1) * 8 ≤ _; omega⟩, ?_⟩
    refine ⟨⟨k + 1, by omega⟩, by show l.length - (k + 1) < l.length - k; omega, th [(4, some 6)] 5, rfl, rfl, rfl, rfl, rfl, rfl, ?_, ?_⟩
    · (repeat' first | exact trivial | exact rfl | refine And.intro ?_ ?_)
      · exact (wrap_nat k (by omega)).symm
      · show (il l T (k + 1)).length = (il l T k).length + 1
        rw [e1, List.length_append]; rfl
    · (repeat' first | exact trivial | exact rfl | refine And.intro ?_ ?_)
      show il l T (k + 1) = il l T k ++ [ni l (0 + k)]
      rw [e1, z]
  · have g : (((BI l T l.length).getD (k : Int).toNat []).getD 0 (D.n 0)).bool = false := g
    rw [eB] at g
    have e1 : il l T (k + 1) = il l T k := if_neg (by rw [g]; decide)
    refine ⟨⟨k + 1, by omega⟩, by show l.length - (k + 1) < l.length - k; omega, th [] 5, rfl, rfl, rfl, rfl, rfl, rfl, ?_, ?_⟩
    · (repeat' first | exact trivial | exact rfl | refine And.intro ?_ ?_)
      · exact (wrap_nat k (by omega)).symm
      · show (il l T (k + 1)).length = (il l T k).length
        rw [e1]
    · (repeat' first | exact trivial | exact rfl | refine And.intro ?_ ?_)
      exact e1
theorem has_ok (L : List Int) (x : Int) (hl : L.length ≤ 9000000000000000000) : SemF Try.prog 23 [.slc 0 1 0 L.length, .int .i64 x] ⟨1, 1, [(0, .arr [.int .i64] .rd (.ints L))]⟩ (fun v _ => v = .test (decide (x ∈ L)) ∧ nameless v = true) := by
  refine SemF.test ?_
  refine enter tt_ok Try.func23 (nt := 18) (cd := body Try.f23) rfl rfl rfl rfl ?_
  intro _
  refine loop2 tt_ok [5] [] 1 (fun k : { k : Nat // k ≤ L.length ∧ ∀ i, i < k → L.getD i 0 ≠ x } => [(5, .int .i64 (k.1 : Nat))]) (fun _ => []) (fun k => L.length - k.1) ⟨0, by omega, fun i h => by omega⟩ ?_
  intro _
  refine ⟨⟨th [] 1, rfl, rfl, rfl, rfl, rfl, rfl, ?_, ?_⟩, ?_⟩
  · (repeat' first | exact trivial | exact rfl | refine And.intro ?_ ?_)
  · (repeat' first | exact trivial | exact rfl | refine And.intro ?_ ?_)
  intro ⟨k, hk, hm⟩
  have z : 0 + k = k := Nat.zero_add k
  intro _; refine ⟨fun g => ?_, fun g => ?_⟩
  rotate_left
  · have hkl := of_decide_eq_false (show decide ((k : Int) < (L.length : Int)) = false from g)
    obtain rfl : k = L.length := by omega
    intro _
    refine ⟨false, .inl rfl, ?_, rfl⟩
    rw [decide_eq_false (fun h => ?_)]
    obtain ⟨i, hi, e⟩ := List.getElem_of_mem h
    exact hm i hi (by rw [List.getD_eq_getElem?_getD, List.getElem?_eq_getElem hi]; exact e)
  have hkl := of_decide_eq_true (show decide ((k : Int) < (L.length : Int)) = true from g)
  intro _; refine ⟨show 0 ≤ (k : Int) ∧ (k : Int) < (L.length : Int) by omega, ?_⟩
  intro _; refine ⟨show 0 + (k : Int).toNat < L.length by omega, ?_⟩
  have eg : L.getD (0 + (k : Int).toNat) 0 = L.getD k 0 := by rw [Int.toNat_natCast, z]
  intro _; refine ⟨fun g => ?_, fun g => ?_⟩
  · have g : L.getD (0 + (k : Int).toNat) 0 = x := eq_of_beq (show (L.getD (0 + (k : Int).toNat) 0 == x) = true from g)
    rw [eg] at g
    intro _
    refine ⟨true, .inl rfl, ?_, rfl⟩
    have hm : x ∈ L := by
      rw [← g, List.getD_eq_getElem?_getD, List.getElem?_eq_getElem (by omega)]
      exact List.getElem_mem _
    rw [decide_eq_true hm]
  have g : ¬ L.getD k 0 = x := fun e => by
    have g : (L.getD (0 + (k : Int).toNat) 0 == x) = false := g
    rw [eg, e] at g; simp at g
  refine ⟨⟨k + 1, by omega, fun i hi => ?_⟩, by show L.length - (k + 1) < L.length - k; omega, th [] 1, rfl, rfl, rfl, rfl, rfl, rfl, ?_, ?_⟩
  · by_cases c : i = k
    · subst c; exact g
    · exact hm i (by omega)
  · (repeat' first | exact trivial | exact rfl | refine And.intro ?_ ?_)
    exact (wrap_nat k (by omega)).symm
  · (repeat' first | exact trivial | exact rfl | refine And.intro ?_ ?_)
theorem part_ok (A B : List Int) (h : ∀ x ∈ A, x ∈ B) (hl : A.length ≤ 9000000000000000000) (hl2 : B.length ≤ 9000000000000000000) : SemF Try.prog 25 [.slc 0 1 0 A.length, .slc 1 1 0 B.length] ⟨2, 2, [(0, .arr [.int .i64] .rd (.ints A)), (1, .arr [.int .i64] .rd (.ints B))]⟩ (fun v _ => v = .test true ∧ nameless v = true) := by
  refine SemF.test ?_
  refine enter tt_ok Try.func25 (nt := 19) (cd := body Try.f25) rfl rfl rfl rfl ?_
  intro _
  refine loop2 tt_ok [5] [] 2 (fun k : { k : Nat // k ≤ A.length } => [(5, .int .i64 (k.1 : Nat))]) (fun _ => []) (fun k => A.length - k.1) ⟨0, by omega⟩ ?_
  intro _
  refine ⟨⟨th [] 2, rfl, rfl, rfl, rfl, rfl, rfl, ?_, ?_⟩, ?_⟩
  · (repeat' first | exact trivial | exact rfl | refine And.intro ?_ ?_)
  · (repeat' first | exact trivial | exact rfl | refine And.intro ?_ ?_)
  intro ⟨k, hk⟩
  have z : 0 + k = k := Nat.zero_add k
  intro _; refine ⟨fun g => ?_, fun g => ?_⟩
  rotate_left
  · intro _
    exact ⟨true, .inl rfl, rfl, rfl⟩
  have hkl := of_decide_eq_true (show decide ((k : Int) < (A.length : Int)) = true from g)
  intro _; refine ⟨show 0 ≤ (k : Int) ∧ (k : Int) < (A.length : Int) by omega, ?_⟩
  intro _; refine ⟨show 0 + (k : Int).toNat < A.length by omega, ?_⟩
  have hmem : A.getD k 0 ∈ B := h _ (by
    rw [List.getD_eq_getElem?_getD, List.getElem?_eq_getElem (by omega)]
    exact List.getElem_mem _)
  intro _
  refine call_pure [(0, some 1)] (has_ok B (A.getD k 0) hl2) rfl rfl rfl ?_ ?_ ?_
  · (repeat' first | exact trivial | exact rfl | refine And.intro ?_ ?_)
  · (repeat' first | exact trivial | exact rfl | refine And.intro ?_ ?_)
    show A.getD k 0 = A.getD (0 + (k : Int).toNat) 0
    rw [Int.toNat_natCast, z]
  intro v hv _
  subst hv
  intro _; refine ⟨fun g => ?_, fun g => ?_⟩
  · exfalso
    have g : (!decide (A.getD k 0 ∈ B)) = true := g
    rw [decide_eq_true hmem] at g; cases g
  refine ⟨⟨k + 1, by omega⟩, by show A.length - (k + 1) < A.length - k; omega, th [] 2, rfl, rfl, rfl, rfl, rfl, rfl, ?_, ?_⟩
  · (repeat' first | exact trivial | exact rfl | refine And.intro ?_ ?_)
    exact (wrap_nat k (by omega)).symm
  · (repeat' first | exact trivial | exact rfl | refine And.intro ?_ ?_)
theorem okm_bit (l T : Rws) (i p a j : Nat) : ∀ k, Nat.testBit (okm l T i p a k) j = (decide (j < k) && ((j == 0 || Nat.testBit (if tb T j then p else a) (j - 1)) && FFb l T i j))
  | 0 => by show Nat.testBit 0 j = _; simp
  | k + 1 => by
    have ih := okm_bit l T i p a j k
    have e : okm l T i p a (k + 1) = if ((k == 0 || Nat.testBit (if tb T k then p else a) (k - 1)) && FFb l T i k) = true then okm l T i p a k ||| 2 ^ k else okm l T i p a k := rfl
    rw [e]
    by_cases c : ((k == 0 || Nat.testBit (if tb T k then p else a) (k - 1)) && FFb l T i k) = true
    · rw [if_pos c, Nat.testBit_or, ih, Nat.testBit_two_pow]
      by_cases d : j = k
      · subst d
        rw [c]; simp
      · by_cases f : j < k
        · rw [decide_eq_true f, decide_eq_true (show j < k + 1 by omega), decide_eq_false (show ¬ k = j by omega)]; simp
        · rw [decide_eq_false f, decide_eq_false (show ¬ j < k + 1 by omega), decide_eq_false (show ¬ k = j by omega)]; simp
    · rw [if_neg c, ih]
      by_cases d : j = k
      · subst d
        rw [Bool.not_eq_true] at c
        rw [c]; simp
      · by_cases f : j < k
        · rw [decide_eq_true f, decide_eq_true (show j < k + 1 by omega)]
        · rw [decide_eq_false f, decide_eq_false (show ¬ j < k + 1 by omega)]
theorem pk_pr {l T : Rws} {i : Nat} (h : 0 < i) (hp : pr l i < i) : pk l T i = om l T (pr l i) ∧ ak l T i = (ak l T (pr l i) ||| om l T (pr l i)) := by
  obtain ⟨e1, e2⟩ := PL_get l T i (pr l i) hp
  unfold pk ak
  rw [if_neg (by omega), if_neg (by omega)]
  exact ⟨e1, e2⟩
/-- where a selector matches, one that asks less matches as well -/
theorem more {l T U : Rws} {s : Nat} (hP : ∀ i, i < l.length → Pa l i) (hl : T.length = U.length + s)
    (h1 : ∀ i k, i < l.length → k < U.length → FFb l T i (k + s) = true → FFb l U i k = true) (h3 : ∀ k, 0 < k → k < U.length → tb U k = true → tb T (k + s) = true) :
    ∀ i, i < l.length → (∀ k, k < U.length → Nat.testBit (om l T i) (k + s) = true → Nat.testBit (om l U i) k = true) ∧ (∀ k, k < U.length → Nat.testBit (ak l T i ||| om l T i) (k + s) = true → Nat.testBit (ak l U i ||| om l U i) k = true) := by
  intro i
  induction i using Nat.strongRecOn with
  | _ i ih =>
  intro hi
  have step : (∀ k, k < U.length → Nat.testBit (pk l T i) (k + s) = true → Nat.testBit (pk l U i) k = true) ∧ (∀ k, k < U.length → Nat.testBit (ak l T i) (k + s) = true → Nat.testBit (ak l U i) k = true) ∧ (∀ k, Nat.testBit (pk l U i) k = true → Nat.testBit (ak l U i) k = true) := by
    by_cases c : i = 0
    · subst c
      refine ⟨fun k _ h => ?_, fun k _ h => ?_, fun k h => ?_⟩
      · have e : pk l T 0 = 0 := if_pos rfl
        rw [e] at h; simp at h
      · have e : ak l T 0 = 0 := if_pos rfl
        rw [e] at h; simp at h
      · have e : pk l U 0 = 0 := if_pos rfl
        rw [e] at h; simp at h
    · have hp := ((hP i hi).2 (by omega)).1
      obtain ⟨a1, a2⟩ := pk_pr (T := T) (l := l) (i := i) (by omega) hp
      obtain ⟨b1, b2⟩ := pk_pr (T := U) (l := l) (i := i) (by omega) hp
      obtain ⟨q1, q2⟩ := ih (pr l i) hp (by omega)
      rw [a1, a2, b1, b2]
      refine ⟨q1, q2, fun k h => ?_⟩
      rw [Nat.testBit_or, h, Bool.or_true]
  obtain ⟨s1, s2, s3⟩ := step
  have own : ∀ k, k < U.length → Nat.testBit (om l T i) (k + s) = true → Nat.testBit (om l U i) k = true := by
    intro k hk h
    unfold om at h ⊢
    rw [okm_bit] at h ⊢
    rw [Bool.and_eq_true, Bool.and_eq_true] at h
    obtain ⟨_, h4, h5⟩ := h
    rw [decide_eq_true hk, h1 i k hi hk h5, Bool.and_true, Bool.true_and]
    by_cases c : k = 0
    · subst c; rfl
    · rw [Bool.or_eq_true] at h4 ⊢
      right
      have h4 : Nat.testBit (if tb T (k + s) = true then pk l T i else ak l T i) (k + s - 1) = true := by
        rcases h4 with h4 | h4
        · have := eq_of_beq h4; omega
        · exact h4
      rw [show k + s - 1 = (k - 1) + s by omega] at h4
      by_cases d : tb T (k + s) = true
      · rw [if_pos d] at h4
        have := s1 (k - 1) (by omega) h4
        by_cases f : tb U k = true
        · rw [if_pos f]; exact this
        · rw [if_neg f]; exact s3 _ this
      · rw [if_neg d] at h4
        have := s2 (k - 1) (by omega) h4
        rw [if_neg (fun f => d (h3 k (by omega) hk f))]; exact this
  refine ⟨own, fun k hk h => ?_⟩
  rw [Nat.testBit_or, Bool.or_eq_true] at h ⊢
  rcases h with h | h
  · exact .inl (s2 k hk h)
  · exact .inr (own k hk h)
theorem more_mt {l T U : Rws} {s : Nat} (hP : ∀ i, i < l.length → Pa l i) (hl : T.length = U.length + s) (hU : 1 ≤ U.length)
    (h1 : ∀ i k, i < l.length → k < U.length → FFb l T i (k + s) = true → FFb l U i k = true) (h3 : ∀ k, 0 < k → k < U.length → tb U k = true → tb T (k + s) = true) : ∀ x ∈ il l T l.length, x ∈ il l U l.length := by
  intro x hx
  obtain ⟨i, hi, hm, e⟩ := (il_mem _).1 hx
  refine (il_mem _).2 ⟨i, hi, ?_, e⟩
  unfold mt at hm ⊢
  rw [hl, show U.length + s - 1 = (U.length - 1) + s by omega] at hm
  exact (more hP hl h1 h3 i hi).1 _ (by omega) hm
end Go.Proofs.Ytmdobpjkcheneaa.selectorBegins
