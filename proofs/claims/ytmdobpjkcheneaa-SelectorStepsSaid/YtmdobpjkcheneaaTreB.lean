/-
  Trees of nodes and selectors: contracts of packages tree, match and selector, and of their reference. No conditions beyond those that its theorems name.
-/
import Derived.Test.YtmdobpjkcheneaaRows
import Derived.Test.YtmdobpjkcheneaaVwOpen2
import Derived.Test.YtmdobpjkcheneaaVwRules7
import Derived.Test.YtmdobpjkcheneaaVmFast3
import Derived.WalkKit
import Derived.ProofKit
import Derived.OpenShut
import Derived.Carry
import Derived.Test.YtmdobpjkcheneaaHead
import Derived.Laws.RangeAny
import Derived.Test.YtmdobpjkcheneaaTreA
namespace Go.Proofs.Ytmdobpjkcheneaa.selectorBegins
open Go.ChangeShapes Go.WideShapes Go.ChangeAt Go.RowKit
open Go.Vm (Facts Val Sound)
open Go.Vm2
set_option linter.unusedVariables false
set_option linter.unusedSectionVars false

set_option maxRecDepth 100000
/-- the index of a parent -/
def pr (l : Rws) (i : Nat) : Nat := fi l (np l i) i
def Pa (l : Rws) (i : Nat) : Prop := (i = 0 → np l 0 = 0 ∧ nk l 0 = 1) ∧ (0 < i → pr l i < i ∧ St (nk l i) (nk l (pr l i)))
instance decPa (l : Rws) (i : Nat) : Decidable (Pa l i) := by unfold Pa; infer_instance
def ds (l : Rws) : Nat → List Int
  | 0 => []
  | k + 1 => ds l k ++ [if k = 0 then 1 else (ds l k).getD (pr l k) 0 + 1]
theorem ds_len (l : Rws) : ∀ k, (ds l k).length = k
  | 0 => rfl
  | k + 1 => by show (ds l k ++ [_]).length = k + 1; rw [List.length_append, ds_len l k]; rfl
def dp (l : Rws) (i : Nat) : Int := (ds l (i + 1)).getD i 0
theorem ds_get (l : Rws) : ∀ k i, i < k → (ds l k).getD i 0 = dp l i
  | 0, i, h => by omega
  | k + 1, i, h => by
    by_cases c : i = k
    · subst c; rfl
    · show (ds l k ++ [_]).getD i 0 = _
      rw [List.getD_eq_getElem?_getD, List.getElem?_append_left (by rw [ds_len]; omega), ← List.getD_eq_getElem?_getD]
      exact ds_get l k i (by omega)
theorem ds_bd (l : Rws) : ∀ k i, 0 ≤ (ds l k).getD i 0 ∧ (ds l k).getD i 0 ≤ (k : Int)
  | 0, i => by show 0 ≤ (([] : List Int).getD i 0) ∧ _; simp [ds]
  | k + 1, i => by
    show 0 ≤ (ds l k ++ [_]).getD i 0 ∧ (ds l k ++ [_]).getD i 0 ≤ _
    have ih := ds_bd l k
    rcases Nat.lt_trichotomy i k with c | c | c
    · rw [List.getD_eq_getElem?_getD, List.getElem?_append_left (by rw [ds_len]; omega), ← List.getD_eq_getElem?_getD]
      have := ih i; omega
    · rw [List.getD_eq_getElem?_getD, List.getElem?_append_right (by rw [ds_len]; omega), ds_len, c, Nat.sub_self]
      show 0 ≤ (if k = 0 then (1 : Int) else _) ∧ (if k = 0 then (1 : Int) else _) ≤ _
      have := ih (pr l k)
      split <;> omega
    · rw [List.getD_eq_getElem?_getD, List.getElem?_eq_none (by rw [List.length_append, ds_len]; show k + 1 ≤ i; omega)]
      show (0 : Int) ≤ 0 ∧ (0 : Int) ≤ _
      omega
theorem dp_suc {l : Rws} {i : Nat} (h : 0 < i) (hp : pr l i < i) : dp l i = dp l (pr l i) + 1 := by
  have e : dp l i = (ds l i ++ [if i = 0 then 1 else (ds l i).getD (pr l i) 0 + 1]).getD i 0 := rfl
  rw [e, List.getD_eq_getElem?_getD, List.getElem?_append_right (by rw [ds_len]; omega), ds_len, Nat.sub_self]
  show (if i = 0 then (1 : Int) else (ds l i).getD (pr l i) 0 + 1) = _
  rw [if_neg (by omega), ds_get l i _ hp]
theorem dp_zero (l : Rws) : dp l 0 = 1 := rfl
def dq (l : Rws) : List Int × Bool := if ∀ i, i < l.length → Pa l i then (ds l l.length, true) else ([], false)
theorem dq_ok {l : Rws} (h : ∀ i, i < l.length → Pa l i) : dq l = (ds l l.length, true) := if_pos h
theorem dq_no {l : Rws} {i : Nat} (hi : i < l.length) (h : ¬ Pa l i) : dq l = ([], false) := if_neg (fun q => h (q i hi))
set_option maxHeartbeats 4000000 in
theorem depths_ok (l : Rws) (hn : l.length ≤ 4000) : SemF Try.prog 43 [.slc 0 5 0 l.length] ⟨1, 1, [(0, .arr [.int .i64, .int .i64, .int .i64, .int .i64, .str] .rd (.recs l))]⟩ (fun v h' => v = .tup [.grw 1 (dq l).1.length, .test (dq l).2] ∧ h' = ⟨2, 1, [(1, .arr [.int .i64] .grow (.ints (dq l).1))]⟩) := by
  refine SemF.ret ?_
  refine enter tt_ok Try.func43 (nt := 64) (cd := body Try.f43) rfl rfl rfl rfl ?_
  intro _
  refine loop2 tt_ok [5, 4] [1] 2 (fun k : { k : Nat // k ≤ l.length ∧ ∀ i, i < k → Pa l i } => [(5, .int .i64 (k.1 : Nat)), (4, .grw 1 (ds l k.1).length)]) (fun k => [(1, .arr [.int .i64] .grow (.ints (ds l k.1)))]) (fun k => l.length - k.1) ⟨0, by omega, fun i h => by omega⟩ ?_
  intro _
  refine ⟨⟨th [(1, none)] 2, rfl, rfl, rfl, rfl, rfl, rfl, ?_, ?_⟩, ?_⟩
  · (repeat' first | exact trivial | exact rfl | refine And.intro ?_ ?_)
  · (repeat' first | exact trivial | exact rfl | refine And.intro ?_ ?_)
  intro ⟨k, hk, hm⟩
  have z : 0 + k = k := Nat.zero_add k
  have hdl := ds_len l k
  intro _; refine ⟨fun g => ?_, fun g => ?_⟩
  rotate_left
  · have hkl := of_decide_eq_false (show decide ((k : Int) < (l.length : Int)) = false from g)
    obtain rfl : k = l.length := by omega
    have eq := dq_ok hm
    intro _
    refine ⟨[(1, some 1)], .tup [.grw 1 (dq l).1.length, .test (dq l).2], ⟨2, 1, [(1, .arr [.int .i64] .grow (.ints (dq l).1))]⟩, rfl, rfl, rfl, rfl, ?_, ?_, ⟨rfl, rfl⟩⟩
    · rw [eq]; (repeat' first | exact trivial | exact rfl | refine And.intro ?_ ?_)
    · rw [eq]; (repeat' first | exact trivial | exact rfl | refine And.intro ?_ ?_)
  have hkl := of_decide_eq_true (show decide ((k : Int) < (l.length : Int)) = true from g)
  have i1 : 0 ≤ (k : Int) ∧ (k : Int) < (l.length : Int) := by omega
  have i2 : 0 + (k : Int).toNat < l.length := by omega
  have ek := (wrap_nat k (by omega)).symm
  intro _; refine ⟨fun g => ?_, fun g => ?_⟩
  · have g0 : (k : Int) = 0 := eq_of_beq (show ((k : Int) == 0) = true from g)
    obtain rfl : k = 0 := by omega
    have j1 : (0 : Int) ≤ 0 ∧ (0 : Int) < (l.length : Int) := by omega
    have j2 : 0 + (0 : Int).toNat < l.length := by show 0 + 0 < l.length; omega
    intro _; refine ⟨rfl, ?_⟩
    intro _; refine ⟨fun g3 => by simp at g3, fun _ => ?_⟩
    refine ⟨⟨rfl, by show (ds l 0).length + 1 ≤ _; omega, by show ((ds l 0).length + 1) * 8 ≤ _; omega⟩, ?_⟩
    intro _; refine ⟨j1, ?_⟩
    intro _; refine ⟨j2, ?_⟩
    intro _; refine ⟨fun g => ?_, fun g => ?_⟩
    · have g := bne_iff_ne.1 (show (np l 0 != 0) = true from g)
      have eq := dq_no (i := 0) (by omega) (fun h => g (h.1 rfl).1)
      intro _
      refine ⟨[(1, none)], .tup [.grw 1 (dq l).1.length, .test (dq l).2], ⟨2, 1, [(1, .arr [.int .i64] .grow (.ints (dq l).1))]⟩, rfl, rfl, rfl, rfl, ?_, ?_, ⟨rfl, rfl⟩⟩
      · rw [eq]; (repeat' first | exact trivial | exact rfl | refine And.intro ?_ ?_)
      · rw [eq]; (repeat' first | exact trivial | exact rfl | refine And.intro ?_ ?_)
    have gp : np l 0 = 0 := by
      have g : (np l 0 != 0) = false := g
      simpa using g
    intro _; refine ⟨j1, ?_⟩
    intro _; refine ⟨j2, ?_⟩
    intro _; refine ⟨fun g => ?_, fun g => ?_⟩
    · have g := bne_iff_ne.1 (show (nk l 0 != 1) = true from g)
      have eq := dq_no (i := 0) (by omega) (fun h => g (h.1 rfl).2)
      intro _
      refine ⟨[(1, none)], .tup [.grw 1 (dq l).1.length, .test (dq l).2], ⟨2, 1, [(1, .arr [.int .i64] .grow (.ints (dq l).1))]⟩, rfl, rfl, rfl, rfl, ?_, ?_, ⟨rfl, rfl⟩⟩
      · rw [eq]; (repeat' first | exact trivial | exact rfl | refine And.intro ?_ ?_)
      · rw [eq]; (repeat' first | exact trivial | exact rfl | refine And.intro ?_ ?_)
    have gk : nk l 0 = 1 := by
      have g : (nk l 0 != 1) = false := g
      simpa using g
    refine ⟨⟨1, by omega, fun i hi => ?_⟩, by show l.length - 1 < l.length - 0; omega, th [(1, some 3)] 2, rfl, rfl, rfl, rfl, rfl, rfl, ?_, ?_⟩
    · obtain rfl : i = 0 := by omega
      exact ⟨fun _ => ⟨gp, gk⟩, fun h => by omega⟩
    · (repeat' first | exact trivial | exact rfl | refine And.intro ?_ ?_)
    · (repeat' first | exact trivial | exact rfl | refine And.intro ?_ ?_)
  have gk0 : ¬ k = 0 := fun e => by
    have g : ((k : Int) == 0) = false := g
    rw [e] at g; cases g
  intro _; refine ⟨show (0 : Int) ≤ 0 ∧ (0 : Int) ≤ (k : Int) ∧ (k : Int) ≤ (l.length : Int) ∧ ((0 : Int) < (l.length : Int) ∨ (0 : Int) = 0) by omega, ?_⟩
  intro _; refine ⟨i1, ?_⟩
  intro _; refine ⟨i2, ?_⟩
  intro _; refine Or.inl ?_
  intro _
  refine call_pure [(0, some 0)] (index_ok l (np l k) k hk (by omega)) rfl rfl rfl ?_ ?_ ?_
  · (repeat' first | exact trivial | exact rfl | refine And.intro ?_ ?_)
  · (repeat' first | exact trivial | exact rfl | refine And.intro ?_ ?_)
    show np l k = np l (0 + k)
    rw [z]
  intro v hv _
  subst hv
  intro _; refine ⟨by kernel_rfl, ?_⟩
  by_cases hp : pr l k < k
  rotate_left
  · have ei : ixv l (np l k) k = -1 := if_neg hp
    have eq := dq_no (i := k) (by omega) (fun h => hp (h.2 (by omega)).1)
    rw [ei]
    intro _; refine ⟨fun _ => ?_, fun g => absurd g (by decide)⟩
    intro _; refine ⟨by kernel_rfl, ?_⟩
    intro _
    refine ⟨[(1, none)], .tup [.grw 1 (dq l).1.length, .test (dq l).2], ⟨2, 1, [(1, .arr [.int .i64] .grow (.ints (dq l).1))]⟩, rfl, rfl, rfl, rfl, ?_, ?_, ⟨rfl, rfl⟩⟩
    · rw [eq]; (repeat' first | exact trivial | exact rfl | refine And.intro ?_ ?_)
    · rw [eq]; (repeat' first | exact trivial | exact rfl | refine And.intro ?_ ?_)
  have ei : ixv l (np l k) k = ((pr l k : Nat) : Int) := if_pos hp
  rw [ei]
  intro _; refine ⟨fun g => by have g := of_decide_eq_true (show decide (((pr l k : Nat) : Int) < 0) = true from g); omega, fun _ => ?_⟩
  intro _; refine ⟨i1, ?_⟩
  intro _; refine ⟨i2, ?_⟩
  intro _; refine ⟨show 0 ≤ ((pr l k : Nat) : Int) ∧ ((pr l k : Nat) : Int) < (l.length : Int) by omega, ?_⟩
  intro _; refine ⟨show 0 + ((pr l k : Nat) : Int).toNat < l.length by omega, ?_⟩
  intro _; refine Or.inl ?_
  intro _
  refine call_pure [] (stands_ok (nk l k) (nk l (pr l k))) rfl rfl rfl ?_ ?_ ?_
  · (repeat' first | exact trivial | exact rfl | refine And.intro ?_ ?_)
  · (repeat' first | exact trivial | exact rfl | refine And.intro ?_ ?_)
    show nk l k = nk l (0 + k)
    rw [z]
    show nk l (pr l k) = nk l (0 + pr l k)
    rw [Nat.zero_add]
  intro v hv _
  subst hv
  intro _; refine ⟨by kernel_rfl, ?_⟩
  intro _; refine ⟨fun g => ?_, fun g => ?_⟩
  · have g : (!decide (St (nk l k) (nk l (pr l k)))) = true := g
    rw [Bool.not_eq_true'] at g
    have g := of_decide_eq_false g
    have eq := dq_no (i := k) (by omega) (fun h => g (h.2 (by omega)).2)
    intro _
    refine ⟨[(1, none)], .tup [.grw 1 (dq l).1.length, .test (dq l).2], ⟨2, 1, [(1, .arr [.int .i64] .grow (.ints (dq l).1))]⟩, rfl, rfl, rfl, rfl, ?_, ?_, ⟨rfl, rfl⟩⟩
    · rw [eq]; (repeat' first | exact trivial | exact rfl | refine And.intro ?_ ?_)
    · rw [eq]; (repeat' first | exact trivial | exact rfl | refine And.intro ?_ ?_)
  have g : (!decide (St (nk l k) (nk l (pr l k)))) = false := g
  rw [Bool.not_eq_false'] at g
  have gS := of_decide_eq_true g
  have hb := ds_bd l k (pr l k)
  intro _; refine ⟨show 0 ≤ ((pr l k : Nat) : Int) ∧ ((pr l k : Nat) : Int) < ((ds l k).length : Int) by omega, ?_⟩
  intro _; refine ⟨show ((pr l k : Nat) : Int).toNat < (ds l k).length by omega, ?_⟩
  intro _; refine ⟨rfl, ?_⟩
  intro _; refine ⟨fun g3 => by simp at g3, fun _ => ?_⟩
  refine ⟨⟨rfl, by show (ds l k).length + 1 ≤ _; omega, by show ((ds l k).length + 1) * 8 ≤ _; omega⟩, ?_⟩
  have ed : ds l (k + 1) = ds l k ++ [IntKind.i64.wrap ((ds l k).getD (pr l k) 0 + 1)] := by
    rw [wrapS _ ⟨by omega, by omega⟩]
    show ds l k ++ [if k = 0 then 1 else (ds l k).getD (pr l k) 0 + 1] = _
    rw [if_neg gk0]
  refine ⟨⟨k + 1, by omega, fun i hi => ?_⟩, by show l.length - (k + 1) < l.length - k; omega, th [(1, some 3)] 2, rfl, rfl, rfl, rfl, rfl, rfl, ?_, ?_⟩
  · by_cases c : i = k
    · subst c; exact ⟨fun e => absurd e gk0, fun _ => ⟨hp, gS⟩⟩
    · exact hm i (by omega)
  · (repeat' first | exact trivial | exact rfl | refine And.intro ?_ ?_)
    · exact ek
    · show (ds l (k + 1)).length = (ds l k).length + 1
      rw [ds_len, ds_len]
  · (repeat' first | exact trivial | exact rfl | refine And.intro ?_ ?_)
    exact ed
def Na (l : Rws) (i : Nat) : Prop := Nd (ni l i) (np l i) (nk l i) (nc l i) (nt l i) ∧ fi l (ni l i) i = i
instance decNa (l : Rws) (i : Nat) : Decidable (Na l i) := inferInstanceAs (Decidable (_ ∧ _))
/-- a tree -/
def RV (l : Rws) : Prop := (1 ≤ l.length ∧ l.length ≤ 4000) ∧ (∀ i, i < l.length → Na l i) ∧ (∀ i, i < l.length → Pa l i) ∧ ∀ i, i < l.length → dp l i ≤ 30
instance decRV (l : Rws) : Decidable (RV l) := inferInstanceAs (Decidable (_ ∧ _))
set_option maxHeartbeats 4000000 in
theorem tree_ok (l : Rws) (hl : l.length ≤ 9223372036854775807) (hs : ∀ i, i < l.length → (nt l i).length ≤ 9223372036854775807) : SemF Try.prog 32 [.slc 0 5 0 l.length] ⟨1, 1, [(0, .arr [.int .i64, .int .i64, .int .i64, .int .i64, .str] .rd (.recs l))]⟩ (fun v _ => v = .test (decide (RV l)) ∧ nameless v = true) := by
  refine SemF.test ?_
  refine enter tt_ok Try.func32 (nt := 58) (cd := body Try.f32) rfl rfl rfl rfl ?_
  intro _; refine ⟨fun g => ?_, fun g => ?_⟩
  · have g := of_decide_eq_true (show decide ((l.length : Int) < 1) = true from g)
    intro _
    exact ⟨false, .inl rfl, by rw [decide_eq_false (fun h : RV l => by have := h.1.1; omega)], rfl⟩
  have n1 := of_decide_eq_false (show decide ((l.length : Int) < 1) = false from g)
  intro _; refine ⟨fun g => ?_, fun g => ?_⟩
  · have g := of_decide_eq_true (show decide ((l.length : Int) > 4000) = true from g)
    intro _
    exact ⟨false, .inl rfl, by rw [decide_eq_false (fun h : RV l => by have := h.1.2; omega)], rfl⟩
  have n2 := of_decide_eq_false (show decide ((l.length : Int) > 4000) = false from g)
  intro _
  refine loop2 tt_ok [3] [] 1 (fun k : { k : Nat // k ≤ l.length ∧ ∀ i, i < k → Na l i } => [(3, .int .i64 (k.1 : Nat))]) (fun _ => []) (fun k => l.length - k.1) ⟨0, by omega, fun i h => by omega⟩ ?_
  intro _
  refine ⟨⟨th [] 1, rfl, rfl, rfl, rfl, rfl, rfl, ?_, ?_⟩, ?_⟩
  · (repeat' first | exact trivial | exact rfl | refine And.intro ?_ ?_)
  · (repeat' first | exact trivial | exact rfl | refine And.intro ?_ ?_)
  intro ⟨k, hk, hm⟩
  have z : 0 + k = k := Nat.zero_add k
  intro _; refine ⟨fun g => ?_, fun g => ?_⟩
  rotate_left
  · have hkl := of_decide_eq_false (show decide ((k : Int) < (l.length : Int)) = false from g)
    obtain rfl : k = l.length := by omega
    intro _
    refine call_new [(0, some 0)] (depths_ok l (by omega)) rfl rfl rfl rfl ?_ ?_ ?_
    · (repeat' first | exact trivial | exact rfl | refine And.intro ?_ ?_)
    · (repeat' first | exact trivial | exact rfl | refine And.intro ?_ ?_)
    intro v h' hv
    obtain ⟨rfl, rfl⟩ := hv
    refine ⟨[(1, some 1)], 2, [(1, .arr [.int .i64] .grow (.ints (dq l).1))], .tup [.grw 1 (dq l).1.length, .test (dq l).2], rfl, rfl, rfl, rfl, rfl, ?_, ?_, ?_⟩
    · (repeat' first | exact trivial | exact rfl | refine And.intro ?_ ?_)
    · (repeat' first | exact trivial | exact rfl | refine And.intro ?_ ?_)
    intro _
    by_cases hP : ∀ i, i < l.length → Pa l i
    rotate_left
    · have eq : dq l = ([], false) := if_neg hP
      rw [eq]
      refine loop_step tt_ok ?_
      intro _; refine ⟨fun g => absurd g (by decide), fun _ => ?_⟩
      intro _
      exact ⟨false, .inr rfl, by rw [decide_eq_false (fun h : RV l => hP h.2.2.1)], rfl⟩
    rw [dq_ok hP]
    refine loop2 tt_ok [7] [] 2 (fun k : { k : Nat // k ≤ l.length ∧ ∀ i, i < k → dp l i ≤ 30 } => [(7, .int .i64 (k.1 : Nat))]) (fun _ => []) (fun k => l.length - k.1) ⟨0, by omega, fun i h => by omega⟩ ?_
    intro _
    refine ⟨⟨th [] 2, rfl, rfl, rfl, rfl, rfl, rfl, ?_, ?_⟩, ?_⟩
    · (repeat' first | exact trivial | exact rfl | refine And.intro ?_ ?_)
    · (repeat' first | exact trivial | exact rfl | refine And.intro ?_ ?_)
    intro ⟨j, hj, hd⟩
    have hdl := ds_len l l.length
    intro _; refine ⟨fun g => ?_, fun g => ?_⟩
    rotate_left
    · have hjl := of_decide_eq_false (show decide ((j : Int) < ((ds l l.length).length : Int)) = false from g)
      obtain rfl : j = l.length := by omega
      intro _
      exact ⟨true, .inr rfl, by rw [decide_eq_true (show RV l from ⟨⟨by omega, by omega⟩, hm, hP, hd⟩)], rfl⟩
    have hjl := of_decide_eq_true (show decide ((j : Int) < ((ds l l.length).length : Int)) = true from g)
    intro _; refine ⟨show 0 ≤ (j : Int) ∧ (j : Int) < ((ds l l.length).length : Int) by omega, ?_⟩
    intro _; refine ⟨show (j : Int).toNat < (ds l l.length).length by omega, ?_⟩
    have ed : (ds l l.length).getD (j : Int).toNat 0 = dp l j := ds_get l l.length j (by omega)
    intro _; refine ⟨fun g => ?_, fun g => ?_⟩
    · have g := of_decide_eq_true (show decide ((ds l l.length).getD (j : Int).toNat 0 > 30) = true from g)
      rw [ed] at g
      intro _
      exact ⟨false, .inl rfl, by rw [decide_eq_false (fun h : RV l => by have := h.2.2.2 j (by omega); omega)], rfl⟩
    have g := of_decide_eq_false (show decide ((ds l l.length).getD (j : Int).toNat 0 > 30) = false from g)
    rw [ed] at g
    refine ⟨⟨j + 1, by omega, fun i hi => ?_⟩, by show l.length - (j + 1) < l.length - j; omega, th [] 2, rfl, rfl, rfl, rfl, rfl, rfl, ?_, ?_⟩
    · by_cases c : i = j
      · subst c; omega
      · exact hd i (by omega)
    · (repeat' first | exact trivial | exact rfl | refine And.intro ?_ ?_)
      exact (wrap_nat j (by omega)).symm
    · (repeat' first | exact trivial | exact rfl | refine And.intro ?_ ?_)
  have hkl := of_decide_eq_true (show decide ((k : Int) < (l.length : Int)) = true from g)
  have i1 : 0 ≤ (k : Int) ∧ (k : Int) < (l.length : Int) := by omega
  have i2 : 0 + (k : Int).toNat < l.length := by omega
  intro _; refine ⟨i1, ?_⟩
  intro _; refine ⟨i2, ?_⟩
  intro _
  refine call_pure [] (rnode_ok (ni l (0 + k)) (np l (0 + k)) (nk l (0 + k)) (nc l (0 + k)) (nt l (0 + k)) (by rw [z]; exact hs k (by omega))) rfl rfl rfl ?_ ?_ ?_
  · (repeat' first | exact trivial | exact rfl | refine And.intro ?_ ?_)
  · (repeat' first | exact trivial | exact rfl | refine And.intro ?_ ?_)
  intro v hv _
  subst hv
  intro _; refine ⟨fun g => ?_, fun g => ?_⟩
  · have g : (!decide (Nd (ni l (0 + k)) (np l (0 + k)) (nk l (0 + k)) (nc l (0 + k)) (nt l (0 + k)))) = true := g
    rw [z, Bool.not_eq_true'] at g
    have g := of_decide_eq_false g
    intro _; refine ⟨by kernel_rfl, ?_⟩
    intro _
    exact ⟨false, .inl rfl, by rw [decide_eq_false (fun h : RV l => g (h.2.1 k (by omega)).1)], rfl⟩
  have g : (!decide (Nd (ni l (0 + k)) (np l (0 + k)) (nk l (0 + k)) (nc l (0 + k)) (nt l (0 + k)))) = false := g
  rw [z, Bool.not_eq_false'] at g
  have gN := of_decide_eq_true g
  intro _; refine ⟨show (0 : Int) ≤ 0 ∧ (0 : Int) ≤ (k : Int) ∧ (k : Int) ≤ (l.length : Int) ∧ ((0 : Int) < (l.length : Int) ∨ (0 : Int) = 0) by omega, ?_⟩
  intro _; refine ⟨i1, ?_⟩
  intro _; refine ⟨i2, ?_⟩
  intro _; refine Or.inl ?_
  intro _
  refine call_pure [(0, some 0)] (index_ok l (ni l k) k hk (by omega)) rfl rfl rfl ?_ ?_ ?_
  · (repeat' first | exact trivial | exact rfl | refine And.intro ?_ ?_)
  · (repeat' first | exact trivial | exact rfl | refine And.intro ?_ ?_)
    show ni l k = ni l (0 + k)
    rw [z]
  intro v hv _
  subst hv
  intro _; refine ⟨by kernel_rfl, ?_⟩
  have hle := fi_le l (ni l k) k
  intro _; refine ⟨fun g => ?_, fun g => ?_⟩
  · have g := of_decide_eq_true (show decide (ixv l (ni l k) k ≥ 0) = true from g)
    intro _
    refine ⟨false, .inl rfl, ?_, rfl⟩
    rw [decide_eq_false (fun h : RV l => ?_)]
    have e := (h.2.1 k (by omega)).2
    unfold ixv at g
    rw [if_neg (by omega)] at g
    omega
  have g := of_decide_eq_false (show decide (ixv l (ni l k) k ≥ 0) = false from g)
  have hu : fi l (ni l k) k = k := by
    refine Nat.le_antisymm hle (Nat.le_of_not_lt fun c => g ?_)
    unfold ixv; rw [if_pos c]; omega
  refine ⟨⟨k + 1, by omega, fun i hi => ?_⟩, by show l.length - (k + 1) < l.length - k; omega, th [] 1, rfl, rfl, rfl, rfl, rfl, rfl, ?_, ?_⟩
  · by_cases c : i = k
    · subst c; exact ⟨gN, hu⟩
    · exact hm i (by omega)
  · (repeat' first | exact trivial | exact rfl | refine And.intro ?_ ?_)
    exact (wrap_nat k (by omega)).symm
  · (repeat' first | exact trivial | exact rfl | refine And.intro ?_ ?_)
theorem mfind_mput (a q : Int) (d : List D) : ∀ l : List (Int × List D), mfind (mput l a d) q = if a = q then some d else mfind l q
  | [] => by simp [mput, mfind]
  | e :: l => by
    simp only [mput]
    by_cases h : e.1 = a
    · rw [if_pos h]
      simp only [mfind]
      by_cases h2 : a = q
      · rw [if_pos h2, if_pos h2]
      · rw [if_neg h2, if_neg h2, if_neg (by omega)]
    · rw [if_neg h]
      simp only [mfind, mfind_mput a q d l]
      by_cases h2 : e.1 = q
      · rw [if_pos h2, if_pos h2, if_neg (by omega)]
      · rw [if_neg h2, if_neg h2]
def gm (l : Rws) : Nat → List (Int × List D)
  | 0 => []
  | k + 1 => mput (gm l k) (ni l k) [D.n (k : Nat)]
theorem gm_find {l : Rws} (id : Int) : ∀ k, (∀ i, i < k → fi l (ni l i) i = i) → mfind (gm l k) id = if fi l id k < k then some [D.n ((fi l id k : Nat) : Int)] else none
  | 0, _ => rfl
  | k + 1, h => by
    have ih := gm_find (l := l) id k (fun i hi => h i (by omega))
    have hk := h k (by omega)
    have hle := fi_le l id k
    show mfind (mput (gm l k) (ni l k) [D.n (k : Nat)]) id = _
    rw [mfind_mput, fi_suc]
    by_cases c : fi l id k < k
    · have hne : ¬ ni l k = id := fun e => by rw [e] at hk; omega
      rw [if_neg hne, ih, if_pos c, if_pos c, if_pos (by omega)]
    · rw [if_neg c]
      by_cases d : ni l k = id
      · rw [if_pos d, if_pos d, if_pos (by omega)]
      · rw [if_neg d, if_neg d, if_neg (by omega), ih, if_neg c]
def gd (l : Rws) : Nat → List Int
  | 0 => List.replicate l.length 0
  | k + 1 => if k = 0 then (gd l k).set k 1 else ((gd l k).set k 1).set k (((gd l k).set k 1).getD (pr l k) 0 + 1)
theorem gd_len (l : Rws) : ∀ k, (gd l k).length = l.length
  | 0 => List.length_replicate
  | k + 1 => by
    show (if k = 0 then (gd l k).set k 1 else ((gd l k).set k 1).set k (((gd l k).set k 1).getD (pr l k) 0 + 1)).length = _
    split <;> simp [gd_len l k]
theorem set_get {l : List Int} {i : Nat} {v : Int} (h : i < l.length) (k : Nat) : (l.set i v).getD k 0 = if i = k then v else l.getD k 0 := by
  rw [List.getD_eq_getElem?_getD, List.getD_eq_getElem?_getD, List.getElem?_set]
  by_cases e : i = k
  · subst e; rw [if_pos rfl, if_pos rfl, if_pos h]; rfl
  · rw [if_neg e, if_neg e]
theorem gd_get {l : Rws} : ∀ k, k ≤ l.length → (∀ i, i < k → Pa l i) → ∀ i, i < k → (gd l k).getD i 0 = dp l i
  | 0, _, _, i, hi => by omega
  | k + 1, hk, h, i, hi => by
    have ih := gd_get (l := l) k (by omega) (fun i hi => h i (by omega))
    have hl := gd_len l k
    show (if k = 0 then (gd l k).set k 1 else ((gd l k).set k 1).set k (((gd l k).set k 1).getD (pr l k) 0 + 1)).getD i 0 = _
    by_cases c : k = 0
    · subst c
      obtain rfl : i = 0 := by omega
      rw [if_pos rfl, set_get (by omega), if_pos rfl]; rfl
    · rw [if_neg c]
      have hp := ((h k (by omega)).2 (by omega)).1
      rw [set_get (by rw [List.length_set]; omega)]
      by_cases d : k = i
      · subst d
        rw [if_pos rfl, set_get (by omega), if_neg (by omega), ih _ hp, dp_suc (by omega) hp]
      · rw [if_neg d, set_get (by omega), if_neg d]
        exact ih i (by omega)
def Gk (l : Rws) (i : Nat) : Prop := (Na l i ∧ Pa l i) ∧ dp l i ≤ 30
theorem RV_of {l : Rws} (h1 : 1 ≤ l.length) (h2 : l.length ≤ 4000) (h : ∀ i, i < l.length → Gk l i) : RV l := ⟨⟨h1, h2⟩, fun i hi => (h i hi).1.1, fun i hi => (h i hi).1.2, fun i hi => (h i hi).2⟩
set_option maxHeartbeats 8000000 in
theorem valid2_ok (l : Rws) (hl : l.length ≤ 9223372036854775807) (hs : ∀ i, i < l.length → (nt l i).length ≤ 9223372036854775807) : SemF Try.prog 27 [.slc 0 5 0 l.length] ⟨1, 1, [(0, .arr [.int .i64, .int .i64, .int .i64, .int .i64, .str] .rd (.recs l))]⟩ (fun v _ => v = .test (decide (RV l)) ∧ nameless v = true) := by
  refine SemF.test ?_
  refine enter tt_ok Try.func27 (nt := 11) (cd := body Try.f27) rfl rfl rfl rfl ?_
  intro _
  refine enter tt_ok Try.func39 (nt := 128) (cd := body Try.f39) rfl rfl rfl rfl ?_
  intro _; refine ⟨fun g => ?_, fun g => ?_⟩
  · have g : (l.length : Int) = 0 := eq_of_beq (show ((l.length : Int) == 0) = true from g)
    intro _
    intro _
    exact ⟨false, .inl rfl, by rw [decide_eq_false (fun h : RV l => by have := h.1.1; omega)], rfl⟩
  have n1 : 1 ≤ l.length := by
    refine Nat.pos_of_ne_zero fun e => ?_
    have g : ((l.length : Int) == 0) = false := g
    rw [e] at g; cases g
  intro _; refine ⟨fun g => ?_, fun g => ?_⟩
  · have g := of_decide_eq_true (show decide ((l.length : Int) > 4000) = true from g)
    intro _
    intro _
    exact ⟨false, .inl rfl, by rw [decide_eq_false (fun h : RV l => by have := h.1.2; omega)], rfl⟩
  have n2 := of_decide_eq_false (show decide ((l.length : Int) > 4000) = false from g)
  intro _; refine ⟨⟨by omega, by omega, by show 8 * l.length ≤ _; omega⟩, ?_⟩
  intro _; refine ⟨rfl, ?_⟩
  intro _; refine ⟨by kernel_rfl, ?_⟩
  intro _
  refine loop2 tt_ok [30] [1, 2] 4 (fun k : { k : Nat // k ≤ l.length ∧ ∀ i, i < k → Gk l i } => [(30, .int .i64 (k.1 : Nat))]) (fun k => [(1, .map .i64 [.int .i64] false (gm l k.1)), (2, .arr [.int .i64] .own (.ints (gd l k.1)))]) (fun k => l.length - k.1) ⟨0, by omega, fun i h => by omega⟩ ?_
  intro _
  refine ⟨⟨th [] 4, rfl, rfl, rfl, rfl, rfl, rfl, ?_, ?_⟩, ?_⟩
  · (repeat' first | exact trivial | exact rfl | refine And.intro ?_ ?_)
  · (repeat' first | exact trivial | exact rfl | refine And.intro ?_ ?_)
  intro ⟨k, hk, hm⟩
  have z : 0 + k = k := Nat.zero_add k
  have hgl := gd_len l k
  have hu : ∀ i, i < k → fi l (ni l i) i = i := fun i hi => (hm i hi).1.1.2
  intro _; refine ⟨fun g => ?_, fun g => ?_⟩
  rotate_left
  · have hkl := of_decide_eq_false (show decide ((k : Int) < (l.length : Int)) = false from g)
    obtain rfl : k = l.length := by omega
    intro _
    intro _
    exact ⟨true, .inl rfl, by rw [decide_eq_true (RV_of n1 (by omega) hm)], rfl⟩
  have hkl := of_decide_eq_true (show decide ((k : Int) < (l.length : Int)) = true from g)
  have i1 : 0 ≤ (k : Int) ∧ (k : Int) < (l.length : Int) := by omega
  have i2 : 0 + (k : Int).toNat < l.length := by omega
  have ek := (wrap_nat k (by omega)).symm
  have hf1 := gm_find (l := l) (ni l k) k hu
  have hle := fi_le l (ni l k) k
  intro _; refine ⟨i1, ?_⟩
  intro _; refine ⟨i2, ?_⟩
  intro _; refine ⟨by kernel_rfl, ?_⟩
  intro _; refine ⟨fun g => ?_, fun g => ?_⟩
  · have g : (mfind (gm l k) (ni l (0 + k))).isSome = true := g
    rw [z, hf1] at g
    have c : fi l (ni l k) k < k := by
      refine Decidable.byContradiction fun c => ?_
      rw [if_neg c] at g; cases g
    intro _
    intro _
    exact ⟨false, .inl rfl, by rw [decide_eq_false (fun h : RV l => by have := (h.2.1 k (by omega)).2; omega)], rfl⟩
  have g : (mfind (gm l k) (ni l (0 + k))).isSome = false := g
  rw [z, hf1] at g
  have huk : fi l (ni l k) k = k := by
    refine Nat.le_antisymm hle (Nat.le_of_not_lt fun c => ?_)
    rw [if_pos c] at g; cases g
  have hu1 : ∀ i, i < k + 1 → fi l (ni l i) i = i := fun i hi => by
    by_cases c : i = k
    · subst c; exact huk
    · exact hu i (by omega)
  intro _
  refine call_pure [] (node_ok (ni l (0 + k)) (np l (0 + k)) (nk l (0 + k)) (nc l (0 + k)) (nt l (0 + k)) (by rw [z]; exact hs k (by omega))) rfl rfl rfl ?_ ?_ ?_
  · (repeat' first | exact trivial | exact rfl | refine And.intro ?_ ?_)
  · (repeat' first | exact trivial | exact rfl | refine And.intro ?_ ?_)
  intro v hv _
  subst hv
  intro _; refine ⟨fun g => ?_, fun g => ?_⟩
  · have g : (!decide (Nd (ni l (0 + k)) (np l (0 + k)) (nk l (0 + k)) (nc l (0 + k)) (nt l (0 + k)))) = true := g
    rw [z, Bool.not_eq_true'] at g
    have g := of_decide_eq_false g
    intro _
    intro _
    exact ⟨false, .inl rfl, by rw [decide_eq_false (fun h : RV l => g (h.2.1 k (by omega)).1)], rfl⟩
  have g : (!decide (Nd (ni l (0 + k)) (np l (0 + k)) (nk l (0 + k)) (nc l (0 + k)) (nt l (0 + k)))) = false := g
  rw [z, Bool.not_eq_false'] at g
  have gN := of_decide_eq_true g
  intro _; refine ⟨by kernel_rfl, ?_⟩
  intro _; refine ⟨i1, ?_⟩
  intro _; refine ⟨show (k : Int).toNat < (gd l k).length by omega, ?_⟩
  intro _; refine ⟨fun g => ?_, fun g => ?_⟩
  · have g0 : (k : Int) = 0 := eq_of_beq (show ((k : Int) == 0) = true from g)
    obtain rfl : k = 0 := by omega
    intro _; refine ⟨fun g => ?_, fun g => ?_⟩
    · have g := bne_iff_ne.1 (show (nk l (0 + 0) != 1) = true from g)
      intro _
      intro _
      exact ⟨false, .inl rfl, by rw [decide_eq_false (fun h : RV l => g ((h.2.2.1 0 (by omega)).1 rfl).2)], rfl⟩
    have gk : nk l 0 = 1 := by
      have g : (nk l (0 + 0) != 1) = false := g
      simpa using g
    intro _; refine ⟨fun g => ?_, fun g => ?_⟩
    · have g := bne_iff_ne.1 (show (np l (0 + 0) != 0) = true from g)
      intro _
      intro _
      exact ⟨false, .inl rfl, by rw [decide_eq_false (fun h : RV l => g ((h.2.2.1 0 (by omega)).1 rfl).1)], rfl⟩
    have gp : np l 0 = 0 := by
      have g : (np l (0 + 0) != 0) = false := g
      simpa using g
    refine ⟨⟨1, by omega, fun i hi => ?_⟩, by show l.length - 1 < l.length - 0; omega, th [] 4, rfl, rfl, rfl, rfl, rfl, rfl, ?_, ?_⟩
    · obtain rfl : i = 0 := by omega
      exact ⟨⟨⟨gN, huk⟩, fun _ => ⟨gp, gk⟩, fun h => by omega⟩, by rw [dp_zero]; decide⟩
    · (repeat' first | exact trivial | exact rfl | refine And.intro ?_ ?_)
    · (repeat' first | exact trivial | exact rfl | refine And.intro ?_ ?_)
  have gk0 : ¬ k = 0 := fun e => by
    have g : ((k : Int) == 0) = false := g
    rw [e] at g; cases g
  have hf2 := gm_find (l := l) (np l k) (k + 1) hu1
  have hpe : fi l (np l k) (k + 1) = if pr l k < k then pr l k else if ni l k = np l k then k else k + 1 := rfl
  have eM : mput (gm l k) (ni l (0 + k)) [D.n (k : Nat)] = gm l (k + 1) := by rw [z]; rfl
  intro _; refine ⟨by kernel_rfl, ?_⟩
  have eL : mfind (mput (gm l k) (ni l (0 + k)) [D.n (k : Nat)]) (np l (0 + k)) = if fi l (np l k) (k + 1) < k + 1 then some [D.n ((fi l (np l k) (k + 1) : Nat) : Int)] else none := by rw [eM, z]; exact hf2
  intro _; refine ⟨fun g => ?_, fun g => ?_⟩
  · have g : (!(mfind (mput (gm l k) (ni l (0 + k)) [D.n (k : Nat)]) (np l (0 + k))).isSome) = true := g
    rw [eL, hpe] at g
    have hp : ¬ pr l k < k := fun c => by
      rw [if_pos c, if_pos (by omega)] at g; cases g
    intro _; refine ⟨by kernel_rfl, ?_⟩
    intro _
    intro _
    exact ⟨false, .inl rfl, by rw [decide_eq_false (fun h : RV l => hp ((h.2.2.1 k (by omega)).2 (by omega)).1)], rfl⟩
  have g : (!(mfind (mput (gm l k) (ni l (0 + k)) [D.n (k : Nat)]) (np l (0 + k))).isSome) = false := g
  rw [eL, hpe] at g
  by_cases hp : pr l k < k
  rotate_left
  · have hself : ni l k = np l k := by
      refine Decidable.byContradiction fun c => ?_
      rw [if_neg hp, if_neg c, if_neg (by omega)] at g; cases g
    have eE : ((((mfind (mput (gm l k) (ni l (0 + k)) [D.n (k : Nat)]) (np l (0 + k))).getD [D.n 0]).getD 0 (D.n 0)).int) = ((k : Nat) : Int) := by rw [eL, hpe, if_neg hp, if_pos hself, if_pos (by omega)]; rfl
    intro _; refine ⟨fun _ => ?_, fun g => ?_⟩
    · intro _; refine ⟨by kernel_rfl, ?_⟩
      intro _
      intro _
      exact ⟨false, .inl rfl, by rw [decide_eq_false (fun h : RV l => hp ((h.2.2.1 k (by omega)).2 (by omega)).1)], rfl⟩
    · exfalso
      have g : (((((mfind (mput (gm l k) (ni l (0 + k)) [D.n (k : Nat)]) (np l (0 + k))).getD [D.n 0]).getD 0 (D.n 0)).int) == ((k : Nat) : Int)) = false := g
      rw [eE] at g
      simp at g
  have eE : ((((mfind (mput (gm l k) (ni l (0 + k)) [D.n (k : Nat)]) (np l (0 + k))).getD [D.n 0]).getD 0 (D.n 0)).int) = ((pr l k : Nat) : Int) := by rw [eL, hpe, if_pos hp, if_pos (by omega)]; rfl
  intro _; refine ⟨fun g => ?_, fun _ => ?_⟩
  · exfalso
    have g : ((((mfind (mput (gm l k) (ni l (0 + k)) [D.n (k : Nat)]) (np l (0 + k))).getD [D.n 0]).getD 0 (D.n 0)).int) = ((k : Nat) : Int) := eq_of_beq (show (((((mfind (mput (gm l k) (ni l (0 + k)) [D.n (k : Nat)]) (np l (0 + k))).getD [D.n 0]).getD 0 (D.n 0)).int) == ((k : Nat) : Int)) = true from g)
    rw [eE] at g
    omega
  intro _; refine ⟨show 0 ≤ ((((mfind (mput (gm l k) (ni l (0 + k)) [D.n (k : Nat)]) (np l (0 + k))).getD [D.n 0]).getD 0 (D.n 0)).int) ∧ ((((mfind (mput (gm l k) (ni l (0 + k)) [D.n (k : Nat)]) (np l (0 + k))).getD [D.n 0]).getD 0 (D.n 0)).int) < (l.length : Int) by rw [eE]; omega, ?_⟩
  intro _; refine ⟨show 0 + ((((mfind (mput (gm l k) (ni l (0 + k)) [D.n (k : Nat)]) (np l (0 + k))).getD [D.n 0]).getD 0 (D.n 0)).int).toNat < l.length by rw [eE]; omega, ?_⟩
  intro _; refine Or.inl ?_
  intro _
  refine call_pure [] (cans_ok (nk l k) (nk l (pr l k))) rfl rfl rfl ?_ ?_ ?_
  · (repeat' first | exact trivial | exact rfl | refine And.intro ?_ ?_)
  · (repeat' first | exact trivial | exact rfl | refine And.intro ?_ ?_)
    show nk l k = nk l (0 + k)
    rw [z]
    show nk l (pr l k) = nk l (0 + ((((mfind (mput (gm l k) (ni l (0 + k)) [D.n (k : Nat)]) (np l (0 + k))).getD [D.n 0]).getD 0 (D.n 0)).int).toNat)
    rw [eE, Nat.zero_add]; rfl
  intro v hv _
  subst hv
  intro _; refine ⟨fun g => ?_, fun g => ?_⟩
  · have g : (!decide (St (nk l k) (nk l (pr l k)))) = true := g
    rw [Bool.not_eq_true'] at g
    have g := of_decide_eq_false g
    intro _; refine ⟨by kernel_rfl, ?_⟩
    intro _
    intro _
    exact ⟨false, .inl rfl, by rw [decide_eq_false (fun h : RV l => g ((h.2.2.1 k (by omega)).2 (by omega)).2)], rfl⟩
  have g : (!decide (St (nk l k) (nk l (pr l k)))) = false := g
  rw [Bool.not_eq_false'] at g
  have gS := of_decide_eq_true g
  have hPk : Pa l k := ⟨fun e => absurd e gk0, fun _ => ⟨hp, gS⟩⟩
  have hds := dp_suc (l := l) (i := k) (by omega) hp
  have hgp := gd_get (l := l) k hk (fun i hi => (hm i hi).1.2) (pr l k) hp
  have eg1 : ((gd l k).set k 1).getD (pr l k) 0 = dp l (pr l k) := by rw [set_get (by omega), if_neg (by omega)]; exact hgp
  have hd30 := (hm (pr l k) hp).2
  have hb := ds_bd l k (pr l k)
  rw [ds_get l k _ hp] at hb
  intro _; refine ⟨show 0 ≤ ((((mfind (mput (gm l k) (ni l (0 + k)) [D.n (k : Nat)]) (np l (0 + k))).getD [D.n 0]).getD 0 (D.n 0)).int) ∧ ((((mfind (mput (gm l k) (ni l (0 + k)) [D.n (k : Nat)]) (np l (0 + k))).getD [D.n 0]).getD 0 (D.n 0)).int) < (l.length : Int) by rw [eE]; omega, ?_⟩
  intro _; refine ⟨show ((((mfind (mput (gm l k) (ni l (0 + k)) [D.n (k : Nat)]) (np l (0 + k))).getD [D.n 0]).getD 0 (D.n 0)).int).toNat < ((gd l k).set k 1).length by rw [eE, List.length_set]; omega, ?_⟩
  intro _; refine ⟨by kernel_rfl, ?_⟩
  intro _; refine ⟨fun g => ?_, fun g => ?_⟩
  · have g : ((gd l k).set k 1).getD ((((mfind (mput (gm l k) (ni l (0 + k)) [D.n (k : Nat)]) (np l (0 + k))).getD [D.n 0]).getD 0 (D.n 0)).int).toNat 0 = 30 := eq_of_beq (show (((gd l k).set k 1).getD ((((mfind (mput (gm l k) (ni l (0 + k)) [D.n (k : Nat)]) (np l (0 + k))).getD [D.n 0]).getD 0 (D.n 0)).int).toNat 0 == 30) = true from g)
    rw [eE, Int.toNat_natCast, eg1] at g
    intro _
    intro _
    exact ⟨false, .inl rfl, by rw [decide_eq_false (fun h : RV l => by have := h.2.2.2 k (by omega); omega)], rfl⟩
  have g : (((gd l k).set k 1).getD ((((mfind (mput (gm l k) (ni l (0 + k)) [D.n (k : Nat)]) (np l (0 + k))).getD [D.n 0]).getD 0 (D.n 0)).int).toNat 0 == 30) = false := g
  rw [eE, Int.toNat_natCast, eg1] at g
  have g30 : ¬ dp l (pr l k) = 30 := fun e => by rw [e] at g; cases g
  intro _; refine ⟨show 0 ≤ ((((mfind (mput (gm l k) (ni l (0 + k)) [D.n (k : Nat)]) (np l (0 + k))).getD [D.n 0]).getD 0 (D.n 0)).int) ∧ ((((mfind (mput (gm l k) (ni l (0 + k)) [D.n (k : Nat)]) (np l (0 + k))).getD [D.n 0]).getD 0 (D.n 0)).int) < (l.length : Int) by rw [eE]; omega, ?_⟩
  intro _; refine ⟨show ((((mfind (mput (gm l k) (ni l (0 + k)) [D.n (k : Nat)]) (np l (0 + k))).getD [D.n 0]).getD 0 (D.n 0)).int).toNat < ((gd l k).set k 1).length by rw [eE, List.length_set]; omega, ?_⟩
  intro _; refine ⟨i1, ?_⟩
  intro _; refine ⟨show (k : Int).toNat < ((gd l k).set k 1).length by rw [List.length_set]; omega, ?_⟩
  intro _; refine ⟨by kernel_rfl, ?_⟩
  refine ⟨⟨k + 1, by omega, fun i hi => ?_⟩, by show l.length - (k + 1) < l.length - k; omega, th [] 4, rfl, rfl, rfl, rfl, rfl, rfl, ?_, ?_⟩
  · by_cases c : i = k
    · subst c; exact ⟨⟨⟨gN, huk⟩, hPk⟩, by omega⟩
    · exact hm i (by omega)
  · (repeat' first | exact trivial | exact rfl | refine And.intro ?_ ?_)
    exact ek
  · (repeat' first | exact trivial | exact rfl | refine And.intro ?_ ?_)
    · exact eM.symm
    · show (if k = 0 then (gd l k).set k 1 else ((gd l k).set k 1).set k (((gd l k).set k 1).getD (pr l k) 0 + 1)) = ((gd l k).set k 1).set k (IntKind.i64.wrap (((gd l k).set k 1).getD ((((mfind (mput (gm l k) (ni l (0 + k)) [D.n (k : Nat)]) (np l (0 + k))).getD [D.n 0]).getD 0 (D.n 0)).int).toNat 0 + 1))
      rw [eE, Int.toNat_natCast, if_neg gk0, wrapS _ ⟨by omega, by omega⟩]
def uq (l : Rws) : Nat → List Int
  | 0 => List.replicate l.length 0
  | k + 1 => if k = 0 then (uq l k).set k (-1) else ((uq l k).set k (-1)).set k ((pr l k : Nat) : Int)
theorem uq_len (l : Rws) : ∀ k, (uq l k).length = l.length
  | 0 => List.length_replicate
  | k + 1 => by
    show (if k = 0 then (uq l k).set k (-1) else ((uq l k).set k (-1)).set k ((pr l k : Nat) : Int)).length = _
    split <;> simp [uq_len l k]
theorem uq_get {l : Rws} : ∀ k, k ≤ l.length → ∀ i, i < k → (uq l k).getD i 0 = if i = 0 then -1 else ((pr l i : Nat) : Int)
  | 0, _, i, hi => by omega
  | k + 1, hk, i, hi => by
    have ih := uq_get (l := l) k (by omega)
    have hl := uq_len l k
    show (if k = 0 then (uq l k).set k (-1) else ((uq l k).set k (-1)).set k ((pr l k : Nat) : Int)).getD i 0 = _
    by_cases c : k = 0
    · subst c
      obtain rfl : i = 0 := by omega
      rw [if_pos rfl, set_get (by omega), if_pos rfl, if_pos rfl]
    · rw [if_neg c, set_get (by rw [List.length_set]; omega)]
      by_cases d : k = i
      · subst d
        rw [if_pos rfl, if_neg c]
      · rw [if_neg d, set_get (by omega), if_neg d]
        exact ih i (by omega)
set_option maxHeartbeats 4000000 in
theorem parents_ok (l : Rws) (hR : RV l) : SemF Try.prog 28 [.slc 0 5 0 l.length] ⟨1, 1, [(0, .arr [.int .i64, .int .i64, .int .i64, .int .i64, .str] .rd (.recs l))]⟩ (fun v h' => v = .grw 1 l.length ∧ h' = ⟨2, 1, [(1, .arr [.int .i64] .own (.ints (uq l l.length)))]⟩) := by
  obtain ⟨⟨n1, n2⟩, hN, hP, hD⟩ := hR
  refine SemF.ret ?_
  refine enter tt_ok Try.func28 (nt := 43) (cd := body Try.f28) rfl rfl rfl rfl ?_
  intro _; refine ⟨⟨by omega, by omega, by show 8 * l.length ≤ _; omega⟩, ?_⟩
  intro _; refine ⟨rfl, ?_⟩
  intro _
  refine loop2 tt_ok [17] [1, 2] 3 (fun k : { k : Nat // k ≤ l.length } => [(17, .int .i64 (k.1 : Nat))]) (fun k => [(1, .map .i64 [.int .i64] false (gm l k.1)), (2, .arr [.int .i64] .own (.ints (uq l k.1)))]) (fun k => l.length - k.1) ⟨0, by omega⟩ ?_
  intro _
  refine ⟨⟨th [] 3, rfl, rfl, rfl, rfl, rfl, rfl, ?_, ?_⟩, ?_⟩
  · (repeat' first | exact trivial | exact rfl | refine And.intro ?_ ?_)
  · (repeat' first | exact trivial | exact rfl | refine And.intro ?_ ?_)
  intro ⟨k, hk⟩
  have z : 0 + k = k := Nat.zero_add k
  have hul := uq_len l k
  intro _; refine ⟨fun g => ?_, fun g => ?_⟩
  rotate_left
  · have hkl := of_decide_eq_false (show decide ((k : Int) < (l.length : Int)) = false from g)
    obtain rfl : k = l.length := by omega
    intro _
    refine ⟨[(1, some 2)], .grw 1 l.length, ⟨2, 1, [(1, .arr [.int .i64] .own (.ints (uq l l.length)))]⟩, rfl, rfl, rfl, rfl, ?_, ?_, ⟨rfl, rfl⟩⟩
    · (repeat' first | exact trivial | exact rfl | refine And.intro ?_ ?_)
    · (repeat' first | exact trivial | exact rfl | refine And.intro ?_ ?_)
  have hkl := of_decide_eq_true (show decide ((k : Int) < (l.length : Int)) = true from g)
  have i1 : 0 ≤ (k : Int) ∧ (k : Int) < (l.length : Int) := by omega
  have i2 : 0 + (k : Int).toNat < l.length := by omega
  have ek := (wrap_nat k (by omega)).symm
  have hu1 : ∀ i, i < k + 1 → fi l (ni l i) i = i := fun i hi => (hN i (by omega)).2
  have hf2 := gm_find (l := l) (np l k) (k + 1) hu1
  have hpe : fi l (np l k) (k + 1) = if pr l k < k then pr l k else if ni l k = np l k then k else k + 1 := rfl
  have eM : mput (gm l k) (ni l (0 + k)) [D.n (k : Nat)] = gm l (k + 1) := by rw [z]; rfl
  have eL : mfind (mput (gm l k) (ni l (0 + k)) [D.n (k : Nat)]) (np l (0 + k)) = if k = 0 then none else some [D.n ((pr l k : Nat) : Int)] := by
    rw [eM, z, hf2]
    by_cases c : k = 0
    · subst c
      have h0 := (hP 0 (by omega)).1 rfl
      have h1 := (hN 0 (by omega)).1.1
      have e : fi l (np l 0) (0 + 1) = 1 := by rw [hpe, if_neg (by omega), if_neg (by omega)]
      rw [e, if_neg (by omega), if_pos rfl]
    · have hp := ((hP k (by omega)).2 (by omega)).1
      rw [hpe, if_neg c, if_pos hp, if_pos (by omega)]
  intro _; refine ⟨i1, ?_⟩
  intro _; refine ⟨i2, ?_⟩
  intro _; refine ⟨i1, ?_⟩
  intro _; refine ⟨show (k : Int).toNat < (uq l k).length by omega, ?_⟩
  intro _; refine ⟨fun g => ?_, fun g => ?_⟩
  · have g : (mfind (mput (gm l k) (ni l (0 + k)) [D.n (k : Nat)]) (np l (0 + k))).isSome = true := g
    rw [eL] at g
    have c : ¬ k = 0 := fun c => by rw [if_pos c] at g; cases g
    have eE : ((((mfind (mput (gm l k) (ni l (0 + k)) [D.n (k : Nat)]) (np l (0 + k))).getD [D.n 0]).getD 0 (D.n 0)).int) = ((pr l k : Nat) : Int) := by rw [eL, if_neg c]; rfl
    intro _; refine ⟨i1, ?_⟩
    intro _; refine ⟨show (k : Int).toNat < ((uq l k).set k (-1)).length by rw [List.length_set]; omega, ?_⟩
    refine ⟨⟨k + 1, by omega⟩, by show l.length - (k + 1) < l.length - k; omega, th [] 3, rfl, rfl, rfl, rfl, rfl, rfl, ?_, ?_⟩
    · (repeat' first | exact trivial | exact rfl | refine And.intro ?_ ?_)
      exact ek
    · (repeat' first | exact trivial | exact rfl | refine And.intro ?_ ?_)
      · exact eM.symm
      · show (if k = 0 then (uq l k).set k (-1) else ((uq l k).set k (-1)).set k ((pr l k : Nat) : Int)) = ((uq l k).set k (-1)).set k ((((mfind (mput (gm l k) (ni l (0 + k)) [D.n (k : Nat)]) (np l (0 + k))).getD [D.n 0]).getD 0 (D.n 0)).int)
        rw [eE, if_neg c]
  · have g : (mfind (mput (gm l k) (ni l (0 + k)) [D.n (k : Nat)]) (np l (0 + k))).isSome = false := g
    rw [eL] at g
    have c : k = 0 := by
      refine Decidable.byContradiction fun c => ?_
      rw [if_neg c] at g; cases g
    refine ⟨⟨k + 1, by omega⟩, by show l.length - (k + 1) < l.length - k; omega, th [] 3, rfl, rfl, rfl, rfl, rfl, rfl, ?_, ?_⟩
    · (repeat' first | exact trivial | exact rfl | refine And.intro ?_ ?_)
      exact ek
    · (repeat' first | exact trivial | exact rfl | refine And.intro ?_ ?_)
      · exact eM.symm
      · show (if k = 0 then (uq l k).set k (-1) else ((uq l k).set k (-1)).set k ((pr l k : Nat) : Int)) = (uq l k).set k (-1)
        rw [if_pos c]
/-- a node fulfils a test -/
def FF (a c d k e i : Int) : Prop := (k = 0 ∨ k = c) ∧ (e = 0 ∨ e = d) ∧ (i = 0 ∨ i = a)
instance decFF (a c d k e i : Int) : Decidable (FF a c d k e i) := inferInstanceAs (Decidable (_ ∧ _))
set_option maxHeartbeats 1000000 in
theorem ful_ok (a b c d : Int) (s : List UInt8) (k e i : Int) (t : Bool) : SemF Try.prog 30 [.agg [.int .i64 a, .int .i64 b, .int .i64 c, .int .i64 d, .str s], .agg [.int .i64 k, .int .i64 e, .int .i64 i, .test t]] ⟨0, 0, []⟩ (fun v _ => v = .test (decide (FF a c d k e i)) ∧ nameless v = true) := by
  refine SemF.test ?_
  refine enter tt_ok Try.func30 (nt := 43) (cd := body Try.f30) rfl rfl rfl rfl ?_
  intro _; refine ⟨fun g => ?_, fun g => ?_⟩
  · have g : (k == 0 && (e == 0 && (i == 0 && (false == false)))) = true := g
    simp at g
    intro _
    exact ⟨true, .inl rfl, by rw [decide_eq_true (show FF a c d k e i from ⟨.inl g.1, .inl g.2.1, .inl g.2.2⟩)], rfl⟩
  have last : ∀ (q : (k = 0 ∨ k = c) ∧ (e = 0 ∨ e = d)), decide (FF a c d k e i) = decide (i = 0 ∨ i = a) := fun q => decide_eq_decide.2 ⟨fun h => h.2.2, fun h => ⟨q.1, q.2, h⟩⟩
  have mid : ∀ (x y : Int), ¬ x = 0 → ¬ x = y → ¬ (x = 0 ∨ x = y) := fun x y h1 h2 h => h.elim h1 h2
  intro _; refine ⟨fun g => ?_, fun g => ?_⟩
  · have q1 : k = 0 := eq_of_beq (show (k == 0) = true from g)
    have p1 : k = 0 ∨ k = c := .inl q1
    intro _; refine ⟨fun g => ?_, fun g => ?_⟩
    · have q3 : e = 0 := eq_of_beq (show (e == 0) = true from g)
      have p2 : e = 0 ∨ e = d := .inl q3
      intro _; refine ⟨fun g => ?_, fun g => ?_⟩
      · have q5 : i = 0 := eq_of_beq (show (i == 0) = true from g)
        intro _
        exact ⟨true, .inl rfl, by rw [decide_eq_true (show FF a c d k e i from ⟨p1, p2, .inl q5⟩)], rfl⟩
      have q5 : ¬ i = 0 := fun h => by
        have g : (i == 0) = false := g
        rw [h] at g; cases g
      intro _
      refine ⟨_, .inr rfl, ?_, rfl⟩
      have e' : decide (FF a c d k e i) = (i == a) := by
        rw [last ⟨p1, p2⟩]
        by_cases q : i = a
        · rw [decide_eq_true (.inr q), q]; simp
        · rw [decide_eq_false (mid _ _ q5 q)]; simp [q]
      rw [e']
    have q3 : ¬ e = 0 := fun h => by
      have g : (e == 0) = false := g
      rw [h] at g; cases g
    intro _; refine ⟨fun g => ?_, fun g => ?_⟩
    rotate_left
    · have q4 : ¬ e = d := fun h => by
        have g : (e == d) = false := g
        rw [h] at g; simp at g
      intro _
      exact ⟨false, .inl rfl, by rw [decide_eq_false (fun h : FF a c d k e i => mid _ _ q3 q4 h.2.1)], rfl⟩
    have p2 : e = 0 ∨ e = d := .inr (eq_of_beq (show (e == d) = true from g))
    intro _; refine ⟨fun g => ?_, fun g => ?_⟩
    · have q5 : i = 0 := eq_of_beq (show (i == 0) = true from g)
      intro _
      exact ⟨true, .inl rfl, by rw [decide_eq_true (show FF a c d k e i from ⟨p1, p2, .inl q5⟩)], rfl⟩
    have q5 : ¬ i = 0 := fun h => by
      have g : (i == 0) = false := g
      rw [h] at g; cases g
    intro _
    refine ⟨_, .inr rfl, ?_, rfl⟩
    have e' : decide (FF a c d k e i) = (i == a) := by
      rw [last ⟨p1, p2⟩]
      by_cases q : i = a
      · rw [decide_eq_true (.inr q), q]; simp
      · rw [decide_eq_false (mid _ _ q5 q)]; simp [q]
    rw [e']
  have q1 : ¬ k = 0 := fun h => by
    have g : (k == 0) = false := g
    rw [h] at g; cases g
  intro _; refine ⟨fun g => ?_, fun g => ?_⟩
  rotate_left
  · have q2 : ¬ k = c := fun h => by
      have g : (k == c) = false := g
      rw [h] at g; simp at g
    intro _
    exact ⟨false, .inl rfl, by rw [decide_eq_false (fun h : FF a c d k e i => mid _ _ q1 q2 h.1)], rfl⟩
  have p1 : k = 0 ∨ k = c := .inr (eq_of_beq (show (k == c) = true from g))
  intro _; refine ⟨fun g => ?_, fun g => ?_⟩
  · have q3 : e = 0 := eq_of_beq (show (e == 0) = true from g)
    have p2 : e = 0 ∨ e = d := .inl q3
    intro _; refine ⟨fun g => ?_, fun g => ?_⟩
    · have q5 : i = 0 := eq_of_beq (show (i == 0) = true from g)
      intro _
      exact ⟨true, .inl rfl, by rw [decide_eq_true (show FF a c d k e i from ⟨p1, p2, .inl q5⟩)], rfl⟩
    have q5 : ¬ i = 0 := fun h => by
      have g : (i == 0) = false := g
      rw [h] at g; cases g
    intro _
    refine ⟨_, .inr rfl, ?_, rfl⟩
    have e' : decide (FF a c d k e i) = (i == a) := by
      rw [last ⟨p1, p2⟩]
      by_cases q : i = a
      · rw [decide_eq_true (.inr q), q]; simp
      · rw [decide_eq_false (mid _ _ q5 q)]; simp [q]
    rw [e']
  have q3 : ¬ e = 0 := fun h => by
    have g : (e == 0) = false := g
    rw [h] at g; cases g
  intro _; refine ⟨fun g => ?_, fun g => ?_⟩
  rotate_left
  · have q4 : ¬ e = d := fun h => by
      have g : (e == d) = false := g
      rw [h] at g; simp at g
    intro _
    exact ⟨false, .inl rfl, by rw [decide_eq_false (fun h : FF a c d k e i => mid _ _ q3 q4 h.2.1)], rfl⟩
  have p2 : e = 0 ∨ e = d := .inr (eq_of_beq (show (e == d) = true from g))
  intro _; refine ⟨fun g => ?_, fun g => ?_⟩
  · have q5 : i = 0 := eq_of_beq (show (i == 0) = true from g)
    intro _
    exact ⟨true, .inl rfl, by rw [decide_eq_true (show FF a c d k e i from ⟨p1, p2, .inl q5⟩)], rfl⟩
  have q5 : ¬ i = 0 := fun h => by
    have g : (i == 0) = false := g
    rw [h] at g; cases g
  intro _
  refine ⟨_, .inr rfl, ?_, rfl⟩
  have e' : decide (FF a c d k e i) = (i == a) := by
    rw [last ⟨p1, p2⟩]
    by_cases q : i = a
    · rw [decide_eq_true (.inr q), q]; simp
    · rw [decide_eq_false (mid _ _ q5 q)]; simp [q]
  rw [e']
end Go.Proofs.Ytmdobpjkcheneaa.selectorBegins
