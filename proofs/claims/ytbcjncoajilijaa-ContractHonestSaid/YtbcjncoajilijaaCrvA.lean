/-
 Contracts of packages quot, curve and contract. No conditions beyond those that its theorems name.
-/
import Derived.Test.YtbcjncoajilijaaRows
import Derived.Test.YtbcjncoajilijaaVwOpen2
import Derived.Test.YtbcjncoajilijaaVwRules7
import Derived.WalkKit
import Derived.ProofKit
import Derived.OpenShut
import Derived.Carry
import Derived.Test.YtbcjncoajilijaaSrtB
namespace Go.Proofs.Ytbcjncoajilijaa.con
open Go.ChangeShapes Go.WideShapes Go.ChangeAt Go.RowKit
open Go.Vm (Facts Val Sound)
open Go.Vm2
set_option linter.unusedVariables false
set_option linter.unusedSectionVars false
set_option maxRecDepth 100000
def Sd0 (l : List Int) : Prop := ∀ p q, p < q → q < l.length → at' l p ≤ at' l q
set_option maxHeartbeats 2000000 in
theorem sort_ok (l : List Int) (hB_l : Bd l) (hl : l.length ≤ 4096) : SemF Try.prog 83 [.grw 0 l.length, .fn 74 [] []] ⟨1, 0, DA l⟩ (fun v h' => ∃ l', (l'.Perm l ∧ Sd0 l') ∧ v = .tup [] ∧ Dat l' h') := by
 refine enter tt_ok Try.func83 (nt := 14) (cd := body Try.f83) rfl rfl rfl rfl ?_
 intro _
 refine call_pure [] (len_ok l.length hl) rfl rfl rfl ?_ ?_ ?_
 ·and_intros<;>try first|exact trivial|exact rfl
 ·and_intros<;>try first|exact trivial|exact rfl
  exact (wrapU (l.length : Int) ⟨by omega, by omega⟩).symm
 intro v hv _
 obtain ⟨k, k1, k2, rfl⟩ := hv
 intro _
 refine call_mut [(0, some 0)] (pdq_ok l.length l hB_l 0 l.length k (by omega) (by omega) (Nat.le_refl _) hl (fun h => by omega)) rfl rfl rfl rfl ?_ ?_ ?_
 ·and_intros<;>try first|exact trivial|exact rfl
 ·and_intros<;>try first|exact trivial|exact rfl
 intro v h' ⟨l', ⟨hp, hs⟩, hv, hd⟩
 subst hv
 refine ⟨_, mut1 hd, rfl, ?_⟩
 intro _
 exact ⟨l', ⟨hp.perm, fun p q h1 h2 => hs p q (Nat.zero_le _) h1 (by rw [← hp.len]; exact h2)⟩, rfl, rfl⟩
abbrev DO (x : Int) : List (Nat × Ob) := [(0, .arr [.int .i64] .own (.ints [x]))]
set_option maxHeartbeats 2000000 in
theorem ins1_ok (x : Int) : SemF Try.prog 86 [.grw 0 1, .int .i64 0, .int .i64 1, .fn 74 [] []] ⟨1, 0, DO x⟩ (fun v h' => v = .tup [] ∧ Go.Vm2.look h'.l 0 = some (.arr [.int .i64] .own (.ints [x]))) := by
 refine enter tt_ok Try.func86 (nt := 53) (cd := body Try.f86) rfl rfl rfl rfl ?_
 intro _
 refine loop_step tt_ok ?_
 intro _; refine ⟨fun g => ?_, fun g => ?_⟩
 ·have g := of_decide_eq_true (show decide (IntKind.i64.wrap (0 + 1) < (1 : Int)) = true from g)
  rw [wrapS (0 + 1) ⟨by omega, by omega⟩] at g
  omega
 ·intro _
  exact ⟨rfl, rfl⟩
theorem mut1o {y : Nat} {x : Int} {h' : H} (hd : Go.Vm2.look h'.l 0 = some (.arr [.int .i64] .own (.ints [x]))) : mutNew [(0, some y)] h'.l (DO x) = some [(y, .arr [.int .i64] .own (.ints [x]))] := by
 have e0 : Go.Vm2.look [((0 : Nat), some y)] 0 = some (some y) := rfl
 simp [mutNew, Ob.own, hd, e0, plainO]
set_option maxHeartbeats 2000000 in
theorem pdq1_ok (x lim : Int) : SemF Try.prog 84 [.grw 0 1, .int .i64 0, .int .i64 1, .int .i64 lim, .fn 74 [] []] ⟨1, 0, DO x⟩ (fun v h' => v = .tup [] ∧ Go.Vm2.look h'.l 0 = some (.arr [.int .i64] .own (.ints [x]))) := by
 refine enter tt_ok Try.func84 (nt := 148) (cd := body Try.f84) rfl rfl rfl rfl ?_
 intro _
 refine loop_step tt_ok ?_
 intro _; refine ⟨fun g => ?_, fun g => ?_⟩
 ·intro _
  refine call_mut [(0, some 0)] (ins1_ok x) rfl rfl rfl rfl ?_ ?_ ?_
  ·and_intros<;>try first|exact trivial|exact rfl
  ·and_intros<;>try first|exact trivial|exact rfl
  intro v h' ⟨hv, hd⟩
  subst hv
  refine ⟨_, mut1o hd, rfl, ?_⟩
  intro _
  exact ⟨rfl, rfl⟩
 ·have g := of_decide_eq_false (show decide (IntKind.i64.wrap ((1 : Int) - 0) ≤ 12) = false from g)
  rw [wrapS (1 - 0) ⟨by omega, by omega⟩] at g
  omega
set_option maxHeartbeats 2000000 in
theorem sort1_ok (x : Int) : SemF Try.prog 83 [.grw 0 1, .fn 74 [] []] ⟨1, 0, DO x⟩ (fun v h' => v = .tup [] ∧ Go.Vm2.look h'.l 0 = some (.arr [.int .i64] .own (.ints [x]))) := by
 refine enter tt_ok Try.func83 (nt := 14) (cd := body Try.f83) rfl rfl rfl rfl ?_
 intro _
 refine call_pure [] (len_ok 1 (by omega)) rfl rfl rfl ?_ ?_ ?_
 ·and_intros<;>try first|exact trivial|exact rfl
 ·and_intros<;>try first|exact trivial|exact rfl
 intro v hv _
 obtain ⟨k, k1, k2, rfl⟩ := hv
 intro _
 refine call_mut [(0, some 0)] (pdq1_ok x k) rfl rfl rfl rfl ?_ ?_ ?_
 ·and_intros<;>try first|exact trivial|exact rfl
 ·and_intros<;>try first|exact trivial|exact rfl
 intro v h' ⟨hv, hd⟩
 subst hv
 refine ⟨_, mut1o hd, rfl, ?_⟩
 intro _
 exact ⟨rfl, rfl⟩
abbrev DV (l : List Int) : List (Nat × Ob) := [(0, .arr [.int .i64] .rd (.ints l))]
def AllC (l : List Int) : Prop := ∀ i, i < l.length → Cd (raw l i)
instance decAllC (l : List Int) : Decidable (AllC l) := inferInstanceAs (Decidable (∀ i, i < l.length → _))
def rise (l : List Int) (d : Int) : Int := d * (raw l (l.length - 1) - raw l 0)
def fromS (l : List Int) (d : Int) : Int := max (-(fl (d - 1 - rise l d) (l.length - 1))) (-1000000000)
def untilS (l : List Int) (d : Int) : Int := min (fl (rise l d + d - 1) (l.length - 1)) 1000000000
def seqI (x : Int) : Nat → List Int
 | 0 => []
 | k + 1 => seqI x k ++ [x + k]
theorem seqI_len (x : Int) : ∀ k, (seqI x k).length = k
 | 0 => rfl
 | k + 1 => by simp [seqI, seqI_len x k]
theorem mem_seqI (x : Int) : ∀ k (a : Int), a ∈ seqI x k ↔ x ≤ a ∧ a < x + k
 | 0, a => by simp [seqI]
 | k + 1, a => by simp only [seqI, List.mem_append, mem_seqI x k a, List.mem_singleton]; omega
def cntS (l : List Int) (d : Int) : Nat := (untilS l d - fromS l d + 1).toNat
def slopes (l : List Int) (d : Int) : List Int := seqI (fromS l d) (cntS l d)
theorem rise_bd {l : List Int} {d : Int} (h : AllC l) (h1 : 2 ≤ l.length) (hd : 1 ≤ d ∧ d ≤ 16) : -32000000000 ≤ rise l d ∧ rise l d ≤ 32000000000 := by
 have a := h (l.length - 1) (by omega)
 have b := h 0 (by omega)
 have a1 := a.1; have a2 := a.2; have b1 := b.1; have b2 := b.2
 unfold rise
 obtain ⟨x, hx⟩ : ∃ x, x = raw l (l.length - 1) - raw l 0 := ⟨_, rfl⟩
 rw [← hx]
 have x1 : -2000000000 ≤ x := by omega
 have x2 : x ≤ 2000000000 := by omega
 have h3 : d * x ≤ d * 2000000000 := Int.mul_le_mul_of_nonneg_left x2 (by omega)
 have h4 : d * (-2000000000) ≤ d * x := Int.mul_le_mul_of_nonneg_left x1 (by omega)
 omega
theorem cnt_bd {l : List Int} {d : Int} (h1 : 2 ≤ l.length) (hd : 1 ≤ d ∧ d ≤ 16) : cntS l d ≤ 31 := by
 have f1 := fl_spec (d - 1 - rise l d) (l.length - 1) (by omega)
 have f2 := fl_spec (rise l d + d - 1) (l.length - 1) (by omega)
 obtain ⟨W, hW⟩ : ∃ W, W = fl (d - 1 - rise l d) (l.length - 1) := ⟨_, rfl⟩
 obtain ⟨U, hU⟩ : ∃ U, U = fl (rise l d + d - 1) (l.length - 1) := ⟨_, rfl⟩
 rw [← hW] at f1
 rw [← hU] at f2
 have k : ((l.length : Int) - 1) * (U + W) ≤ 30 := by rw [Int.mul_add]; omega
 have : U + W ≤ 30 := by
  by_cases c : U + W ≤ 30
  ·exact c
  ·have : 1 * (U + W) ≤ ((l.length : Int) - 1) * (U + W) := Int.mul_le_mul_of_nonneg_right (by omega) (by omega)
   omega
 unfold cntS fromS untilS
 rw [← hW, ← hU]
 omega
theorem slopes_bd (l : List Int) (d : Int) : Bd (slopes l d) := fun v hv => by
 have := (mem_seqI _ _ _).1 hv
 have h1 : -1000000000 ≤ fromS l d := by unfold fromS; omega
 have h2 : untilS l d ≤ 1000000000 := by unfold untilS; omega
 unfold cntS at this
 omega
theorem slopes_ok (l : List Int) (d : Int) (h : AllC l) (h1 : 2 ≤ l.length) (hl : l.length ≤ 4000) (hd : 1 ≤ d ∧ d ≤ 16) : SemF Try.prog 82 [.slc 0 1 0 l.length, .int .i64 d] ⟨1, 1, DV l⟩ (fun v h' => v = .grw 1 (slopes l d).length ∧ h' = ⟨2, 1, [(1, .arr [.int .i64] .grow (.ints (slopes l d)))]⟩) := by
 have rb := rise_bd h h1 hd
 have eL : IntKind.i64.wrap ((l.length : Int) - 1) = (l.length : Int) - 1 := wrapS _ ⟨by omega, by omega⟩
 have va := h (l.length - 1) (by omega)
 have vb := h 0 (by omega)
 have va1 := va.1; have va2 := va.2; have vb1 := vb.1; have vb2 := vb.2
 refine SemF.ret ?_
 refine enter tt_ok Try.func82 (nt := 53) (cd := body Try.f82) rfl rfl rfl rfl ?_
 intro _; refine ⟨fun g => ?_, fun g => ?_⟩
 ·have g := beq_iff_eq.1 (show (IntKind.i64.wrap ((l.length : Int) - 1) == 0) = true from g)
  omega
 have n1 : (IntKind.i64.wrap ((l.length : Int) - 1)).toNat = l.length - 1 := by rw [eL]; omega
 intro _; refine ⟨show 0 ≤ IntKind.i64.wrap ((l.length : Int) - 1) ∧ IntKind.i64.wrap ((l.length : Int) - 1) < (l.length : Int) by rw [eL]; omega, ?_⟩
 intro _; refine ⟨show 0 + (IntKind.i64.wrap ((l.length : Int) - 1)).toNat < l.length by rw [n1]; omega, ?_⟩
 intro _; refine ⟨by omega, ?_⟩
 intro _; refine ⟨show 0 + (0 : Int).toNat < l.length by show 0 < l.length; omega, ?_⟩
 intro _; refine ⟨by kernel_rfl, ?_⟩
 have eA : l.getD (0 + (IntKind.i64.wrap ((l.length : Int) - 1)).toNat) 0 = raw l (l.length - 1) := by rw [n1, Nat.zero_add]; rfl
 have eB : l.getD (0 + (0 : Int).toNat) 0 = raw l 0 := rfl
 obtain ⟨X, hX⟩ : ∃ X, X = IntKind.i64.wrap (d * IntKind.i64.wrap (l.getD (0 + (IntKind.i64.wrap ((l.length : Int) - 1)).toNat) 0 - l.getD (0 + (0 : Int).toNat) 0)) := ⟨_, rfl⟩
 have eX : X = rise l d := by
  rw [hX, eA, eB, wrapS (raw l (l.length - 1) - raw l 0) ⟨by omega, by omega⟩]
  exact wrapS _ ⟨by unfold rise at rb; omega, by unfold rise at rb; omega⟩
 have e1 : IntKind.i64.wrap (IntKind.i64.wrap (d - 1) - X) = d - 1 - rise l d := by rw [eX, wrapS (d - 1) ⟨by omega, by omega⟩, wrapS _ ⟨by omega, by omega⟩]
 have e2 : IntKind.i64.wrap (IntKind.i64.wrap (X + d) - 1) = rise l d + d - 1 := by rw [eX, wrapS (rise l d + d) ⟨by omega, by omega⟩, wrapS _ ⟨by omega, by omega⟩]
 have b1 := fl_bd (d - 1 - rise l d) (l.length - 1) (by omega) 40000000000 ⟨by omega, by omega⟩
 have b2 := fl_bd (rise l d + d - 1) (l.length - 1) (by omega) 40000000000 ⟨by omega, by omega⟩
 intro _
 refine call_pure [] (floor_ok (d - 1 - rise l d) (l.length - 1) (by omega) ⟨by omega, by omega⟩) rfl rfl rfl ?_ ?_ ?_
 ·and_intros<;>try first|exact trivial|exact rfl
 ·and_intros<;>try first|exact trivial|exact rfl
  rw [hX] at e1
  exact e1.symm
  exact eL.symm
 intro v hv _
 subst hv
 intro _
 refine call_pure [] (floor_ok (rise l d + d - 1) (l.length - 1) (by omega) ⟨by omega, by omega⟩) rfl rfl rfl ?_ ?_ ?_
 ·and_intros<;>try first|exact trivial|exact rfl
 ·and_intros<;>try first|exact trivial|exact rfl
  rw [hX] at e2
  exact e2.symm
  exact eL.symm
 intro v hv _
 subst hv
 have e3 : max (IntKind.i64.wrap (0 - fl (d - 1 - rise l d) (l.length - 1))) (-1000000000) = fromS l d := by
  unfold fromS
  rw [wrapS _ ⟨by omega, by omega⟩]; omega
 have cb := cnt_bd (l := l) (d := d) h1 hd
 have fb1 : -1000000000 ≤ fromS l d := by unfold fromS; omega
 have fb2 : fromS l d ≤ 50000000000 := by unfold fromS; omega
 intro _
 refine loop2 tt_ok [9, 10] [1] 2 (fun k : { k : Nat // k ≤ cntS l d } => [(9, .grw 1 (seqI (fromS l d) k.1).length), (10, .int .i64 (fromS l d + k.1))]) (fun k => [(1, .arr [.int .i64] .grow (.ints (seqI (fromS l d) k.1)))]) (fun k => cntS l d - k.1) ⟨0, Nat.zero_le _⟩ ?_
 intro _
 refine ⟨⟨th [(1, none)] 2, rfl, rfl, rfl, rfl, rfl, rfl, ?_, ?_⟩, ?_⟩
 ·and_intros<;>try first|exact trivial|exact rfl
  show fromS l d + ((0 : Nat) : Int) = max (IntKind.i64.wrap (0 - fl (d - 1 - rise l d) (l.length - 1))) (-1000000000)
  rw [e3]; omega
 ·and_intros<;>try first|exact trivial|exact rfl
 intro ⟨k, hk⟩
 have hsl := seqI_len (fromS l d) k
 intro _; refine ⟨fun g => ?_, fun g => ?_⟩
 ·have g := of_decide_eq_true (show decide (fromS l d + (k : Int) ≤ min (fl (rise l d + d - 1) (l.length - 1)) 1000000000) = true from g)
  have hk2 : k < cntS l d := by unfold cntS untilS; omega
  intro _; refine ⟨rfl, ?_⟩
  intro _; refine ⟨fun g3 => by simp at g3, fun _ => ?_⟩
  refine ⟨⟨rfl, show (seqI (fromS l d) k).length + 1 ≤ 4611686018427387904 by rw [hsl]; omega, show ((seqI (fromS l d) k).length + 1) * 8 ≤ 140737488355328 by rw [hsl]; omega⟩, ?_⟩
  refine ⟨⟨k + 1, hk2⟩, by show cntS l d - (k + 1) < cntS l d - k; omega, th [(1, some 3)] 2, rfl, rfl, rfl, rfl, rfl, rfl, ?_, ?_⟩
  ·and_intros<;>try first|exact trivial|exact rfl
   ·show (seqI (fromS l d) (k + 1)).length = (seqI (fromS l d) k).length + 1
    rw [seqI_len, seqI_len]
   ·show fromS l d + ((k + 1 : Nat) : Int) = IntKind.i64.wrap (fromS l d + (k : Int) + 1)
    rw [wrapS _ ⟨by omega, by omega⟩]; omega
  ·and_intros<;>try first|exact trivial|exact rfl
 have g := of_decide_eq_false (show decide (fromS l d + (k : Int) ≤ min (fl (rise l d + d - 1) (l.length - 1)) 1000000000) = false from g)
 have hk2 : k = cntS l d := by unfold cntS untilS at *; omega
 subst hk2
 intro _
 refine ⟨[(1, some 1)], .grw 1 (slopes l d).length, ⟨2, 1, [(1, .arr [.int .i64] .grow (.ints (slopes l d)))]⟩, rfl, rfl, rfl, rfl, ?_, ?_, ⟨rfl, rfl⟩⟩
 ·and_intros<;>try first|exact trivial|exact rfl
 ·and_intros<;>try first|exact trivial|exact rfl
theorem slopes1_ok (l : List Int) (d : Int) (h1 : l.length = 1) : SemF Try.prog 82 [.slc 0 1 0 l.length, .int .i64 d] ⟨1, 1, DV l⟩ (fun v h' => v = .grw 1 1 ∧ h' = ⟨2, 1, [(1, .arr [.int .i64] .own (.ints [0]))]⟩) := by
 refine SemF.ret ?_
 refine enter tt_ok Try.func82 (nt := 53) (cd := body Try.f82) rfl rfl rfl rfl ?_
 intro _; refine ⟨fun g => ?_, fun g => ?_⟩
 rotate_left
 ·have g : (IntKind.i64.wrap ((l.length : Int) - 1) == 0) = false := g
  rw [wrapS _ ⟨by omega, by omega⟩] at g
  have g := beq_eq_false_iff_ne.1 g
  omega
 intro _
 refine ⟨[(1, some 1)], .grw 1 1, ⟨2, 1, [(1, .arr [.int .i64] .own (.ints [0]))]⟩, rfl, rfl, rfl, rfl, ?_, ?_, ⟨rfl, rfl⟩⟩
 ·and_intros<;>try first|exact trivial|exact rfl
 ·and_intros<;>try first|exact trivial|exact rfl
theorem nv_ok (n : Int) : SemF Try.prog 73 [.int .i64 n] ⟨0, 0, []⟩ (fun v _ => v = .test (!decide (Cd n)) ∧ nameless v = true) := by
 refine enter tt_ok Try.func73 (nt := 6) (cd := body Try.f73) rfl rfl rfl rfl ?_
 intro _
 refine coord_test _ _ _ ?_
 intro _
 exact ⟨rfl, rfl⟩
theorem idx_ok (l : List Int) (hl : l.length ≤ 4096) : SemF Try.prog 68 [.slc 0 1 0 l.length, .fn 73 [] []] ⟨1, 1, DV l⟩ (fun v _ => (∃ i : Int, (0 ≤ i ↔ ¬ AllC l) ∧ v = .int .i64 i) ∧ nameless v = true) := by
 refine enter tt_ok Try.func68 (nt := 19) (cd := body Try.f68) rfl rfl rfl rfl ?_
 intro _
 refine loop2 tt_ok [8] [] 1 (fun k : { k : Nat // k ≤ l.length ∧ ∀ i, i < k → Cd (raw l i) } => [(8, .int .i64 (k.1 : Nat))]) (fun _ => []) (fun k => l.length - k.1) ⟨0, by omega, fun i h => by omega⟩ ?_
 intro _
 refine ⟨⟨th [] 1, rfl, rfl, rfl, rfl, rfl, rfl, ?_, ?_⟩, ?_⟩
 ·and_intros<;>try first|exact trivial|exact rfl
 ·and_intros<;>try first|exact trivial|exact rfl
 intro ⟨k, hk, hm⟩
 intro _; refine ⟨fun g => ?_, fun g => ?_⟩
 rotate_left
 ·have g := of_decide_eq_false (show decide ((k : Int) < (l.length : Int)) = false from g)
  have : k = l.length := by omega
  subst this
  intro _
  exact ⟨⟨-1, ⟨fun h => by omega, fun h => absurd hm h⟩, rfl⟩, rfl⟩
 have g := of_decide_eq_true (show decide ((k : Int) < (l.length : Int)) = true from g)
 intro _; refine ⟨show 0 ≤ (k : Int) ∧ (k : Int) < (l.length : Int) by omega, ?_⟩
 intro _; refine ⟨show 0 + (k : Int).toNat < l.length by omega, ?_⟩
 intro _
 refine call_pure [] (nv_ok (raw l k)) rfl rfl rfl ?_ ?_ ?_
 ·and_intros<;>try first|exact trivial|exact rfl
 ·and_intros<;>try first|exact trivial|exact rfl
  show raw l k = l.getD (0 + ((k : Nat) : Int).toNat) 0
  rw [Nat.zero_add]; rfl
 intro v hv _
 subst hv
 intro _; refine ⟨fun g => ?_, fun g => ?_⟩
 ·have g2 : (!decide (Cd (raw l k))) = true := g
  rw [Bool.not_eq_true'] at g2
  have g2 := of_decide_eq_false g2
  intro _
  exact ⟨⟨k, ⟨fun _ h => g2 (h k (by omega)), fun _ => by omega⟩, rfl⟩, rfl⟩
 have g2 : (!decide (Cd (raw l k))) = false := g
 rw [Bool.not_eq_false'] at g2
 have g2 := of_decide_eq_true g2
 refine ⟨⟨k + 1, by omega, fun i hi => ?_⟩, by show l.length - (k + 1) < l.length - k; omega, th [] 1, rfl, rfl, rfl, rfl, rfl, rfl, ?_, ?_⟩
 ·by_cases e : i = k
  ·subst e; exact g2
  ·exact hm i (by omega)
 ·and_intros<;>try first|exact trivial|exact rfl
  exact (wrap_nat k (by omega)).symm
 ·and_intros<;>try first|exact trivial|exact rfl
theorem contains_ok (l : List Int) (hl : l.length ≤ 4096) : SemF Try.prog 60 [.slc 0 1 0 l.length, .fn 73 [] []] ⟨1, 1, DV l⟩ (fun v _ => v = .test (!decide (AllC l)) ∧ nameless v = true) := by
 refine enter tt_ok Try.func60 (nt := 9) (cd := body Try.f60) rfl rfl rfl rfl ?_
 intro _
 refine call_pure [(0, some 0)] (idx_ok l hl) rfl rfl rfl ?_ ?_ ?_
 ·and_intros<;>try first|exact trivial|exact rfl
 ·and_intros<;>try first|exact trivial|exact rfl
 intro v hv _
 obtain ⟨i, hi, rfl⟩ := hv
 intro _
 refine ⟨?_, rfl⟩
 show V.test (decide (i ≥ 0)) = _
 by_cases e : AllC l
 ·rw [decide_eq_true e, decide_eq_false (fun h => (hi.1 h) e)]; rfl
 ·rw [decide_eq_false e, decide_eq_true (hi.2 e)]; rfl
def lw (l : List Int) (d a : Int) : Nat → Int
 | 0 => -1000000000
 | k + 1 => max (lw l d a k) (d * raw l k - a * k)
def hw (l : List Int) (d a : Int) : Nat → Int
 | 0 => 1000000000
 | k + 1 => min (hw l d a k) (d * raw l k - a * k + d - 1)
def Fe (l : List Int) (d a : Int) : Prop := lw l d a l.length ≤ hw l d a l.length
theorem lw_mono (l : List Int) (d a : Int) : ∀ k j, k ≤ j → lw l d a k ≤ lw l d a j
 | k, 0, h => by have : k = 0 := by omega
                 subst this; exact Int.le_refl _
 | k, j + 1, h => by
  by_cases e : k = j + 1
  ·subst e; exact Int.le_refl _
  ·have := lw_mono l d a k j (by omega)
   simp only [lw]; omega
theorem hw_mono (l : List Int) (d a : Int) : ∀ k j, k ≤ j → hw l d a j ≤ hw l d a k
 | k, 0, h => by have : k = 0 := by omega
                 subst this; exact Int.le_refl _
 | k, j + 1, h => by
  by_cases e : k = j + 1
  ·subst e; exact Int.le_refl _
  ·have := hw_mono l d a k j (by omega)
   simp only [hw]; omega
theorem not_fe {l : List Int} {d a : Int} {k : Nat} (hk : k ≤ l.length) (h : lw l d a k > hw l d a k) : ¬ Fe l d a := fun q => by
 have h1 := lw_mono l d a k _ hk
 have h2 := hw_mono l d a k _ hk
 unfold Fe at q
 omega
theorem vd_bd {l : List Int} {d a : Int} (hC : AllC l) (hd : 1 ≤ d ∧ d ≤ 16) (ha : -1000000000 ≤ a ∧ a ≤ 1000000000) (hl : l.length ≤ 4000) {k : Nat} (hk : k < l.length) : (-16000000000 ≤ d * raw l k ∧ d * raw l k ≤ 16000000000) ∧ (-4000000000000 ≤ a * k ∧ a * k ≤ 4000000000000) := by
 have h := hC k hk
 have h1 := h.1; have h2 := h.2
 have a1 : d * (-1000000000) ≤ d * raw l k := Int.mul_le_mul_of_nonneg_left h1 (by omega)
 have a2 : d * raw l k ≤ d * 1000000000 := Int.mul_le_mul_of_nonneg_left h2 (by omega)
 have c1 : (-1000000000) * (k : Int) ≤ a * k := Int.mul_le_mul_of_nonneg_right ha.1 (by omega)
 have c2 : a * (k : Int) ≤ 1000000000 * k := Int.mul_le_mul_of_nonneg_right ha.2 (by omega)
 omega
theorem lw_bd {l : List Int} {d a : Int} (hC : AllC l) (hd : 1 ≤ d ∧ d ≤ 16) (ha : -1000000000 ≤ a ∧ a ≤ 1000000000) (hl : l.length ≤ 4000) : ∀ k, k ≤ l.length → -1000000000 ≤ lw l d a k ∧ lw l d a k ≤ 5000000000000 ∧ -5000000000000 ≤ hw l d a k ∧ hw l d a k ≤ 1000000000
 | 0, _ => by simp [lw, hw]
 | k + 1, h => by
  have := lw_bd hC hd ha hl k (by omega)
  have := vd_bd hC hd ha hl (k := k) (by omega)
  simp only [lw, hw]
  omega
def SS (l : List Int) (d : Int) : List Int := if l.length = 1 then [0] else slopes l d
def Bef (l : List Int) (d : Int) : Prop := ∀ e a, 1 ≤ e → e < d → a ∈ SS l e → ¬ Fe l e a
abbrev QV (a b d : Int) : V := .agg [.int .i64 a, .int .i64 b, .int .i64 d]
def FitR (l : List Int) (v : V) : Prop :=
 if 4000 < l.length then v = .tup [QV 0 0 0, .bool false, .int .i64 2]
 else if l.length = 0 ∨ ¬ AllC l then v = .tup [QV 0 0 0, .bool false, .int .i64 1]
 else (∃ d a, (1 ≤ d ∧ d ≤ 16) ∧ a ∈ SS l d ∧ Fe l d a ∧ Bef l d ∧ (∀ a', a' ∈ SS l d → Kx a' < Kx a → ¬ Fe l d a') ∧ v = .tup [QV a (lw l d a l.length) d, .bool true, .int .i64 0])
  ∨ (Bef l 17 ∧ v = .tup [QV 0 0 0, .bool false, .int .i64 0])
theorem Fit_ok (l : List Int) (hl : l.length ≤ 9223372036854775807) : SemF Try.prog 70 [.slc 0 1 0 l.length] ⟨1, 1, DV l⟩ (fun v _ => FitR l v ∧ nameless v = true) := by
 refine enter tt_ok Try.func70 (nt := 62) (cd := body Try.f70) rfl rfl rfl rfl ?_
 intro _; refine ⟨fun g => ?_, fun g => ?_⟩
 ·have g := of_decide_eq_true (show decide ((l.length : Int) > 4000) = true from g)
  intro _
  exact ⟨by unfold FitR; rw [if_pos (by omega)], rfl⟩
 have g1 := of_decide_eq_false (show decide ((l.length : Int) > 4000) = false from g)
 have no : l.length = 0 ∨ ¬ AllC l → FitR l (.tup [QV 0 0 0, .bool false, .int .i64 1]) ∧ nameless (.tup [QV 0 0 0, .bool false, .int .i64 1]) = true := fun h => ⟨by unfold FitR; rw [if_neg (by omega), if_pos h], rfl⟩
 intro _; refine ⟨fun g => ?_, fun g => ?_⟩
 ·have g := beq_iff_eq.1 (show ((l.length : Int) == 0) = true from g)
  intro _
  exact no (.inl (by omega))
 have g := beq_eq_false_iff_ne.1 (show ((l.length : Int) == 0) = false from g)
 intro _
 refine call_pure [(0, some 0)] (contains_ok l (by omega)) rfl rfl rfl ?_ ?_ ?_
 ·and_intros<;>try first|exact trivial|exact rfl
 ·and_intros<;>try first|exact trivial|exact rfl
 intro v hv _
 subst hv
 intro _; refine ⟨fun g => ?_, fun g => ?_⟩
 ·have g : (!decide (AllC l)) = true := g
  rw [Bool.not_eq_true'] at g
  have g := of_decide_eq_false g
  intro _
  exact no (.inr g)
 have g2 : (!decide (AllC l)) = false := g
 rw [Bool.not_eq_false'] at g2
 have hC := of_decide_eq_true g2
 intro _
 refine enter tt_ok Try.func77 (nt := 6) (cd := body Try.f77) rfl rfl rfl rfl ?_
 intro _
 intro _
 refine range_ok ?_
 intro _
 refine enter tt_ok Try.func81 (nt := 31) (cd := body Try.f81) rfl rfl rfl rfl ?_
 intro _
 have hlen : 1 ≤ l.length := by omega
 have hl4 : l.length ≤ 4000 := by omega
 refine loop2 tt_ok [4] [] 9 (fun e : { e : Nat // (1 ≤ e ∧ e ≤ 17) ∧ Bef l e } => [(4, .int .i64 (e.1 : Nat))]) (fun _ => []) (fun e => 17 - e.1) ⟨1, ⟨by omega, by omega⟩, fun e a h1 h2 => by omega⟩ ?_
 intro _
 refine ⟨⟨th [] 9, rfl, rfl, rfl, rfl, rfl, rfl, ?_, ?_⟩, ?_⟩
 ·and_intros<;>try first|exact trivial|exact rfl
 ·and_intros<;>try first|exact trivial|exact rfl
 intro ⟨e, ⟨he1, he2⟩, hBe⟩
 intro _; refine ⟨fun g => ?_, fun g => ?_⟩
 rotate_left
 ·have g := of_decide_eq_false (show decide ((e : Int) ≤ 16) = false from g)
  have : e = 17 := by omega
  subst this
  intro _
  intro _
  exact ⟨by unfold FitR; rw [if_neg (by omega), if_neg (fun h => h.elim (fun q => by omega) (fun q => q hC))]; exact .inr ⟨hBe, rfl⟩, rfl⟩
 have g := of_decide_eq_true (show decide ((e : Int) ≤ 16) = true from g)
 have hd : 1 ≤ (e : Int) ∧ (e : Int) ≤ 16 := by omega
 intro _
 by_cases h1 : l.length = 1
 ·refine call_new [(0, some 0)] (slopes1_ok l e h1) rfl rfl rfl rfl ?_ ?_ ?_
  ·and_intros<;>try first|exact trivial|exact rfl
  ·and_intros<;>try first|exact trivial|exact rfl
  intro v h' hv
  obtain ⟨rfl, rfl⟩ := hv
  refine ⟨[(9, some 1)], 10, [(9, .arr [.int .i64] .own (.ints [0]))], .grw 9 1, rfl, rfl, rfl, rfl, rfl, ?_, ?_, ?_⟩
  ·and_intros<;>try first|exact trivial|exact rfl
  ·and_intros<;>try first|exact trivial|exact rfl
  intro _
  refine call_mut [(0, some 9)] (sort1_ok 0) rfl rfl rfl rfl ?_ ?_ ?_
  ·and_intros<;>try first|exact trivial|exact rfl
  ·and_intros<;>try first|exact trivial|exact rfl
  intro v h' ⟨hv, hd2⟩
  subst hv
  refine ⟨_, mut1o hd2, rfl, ?_⟩
  have hTp : ∀ a, a ∈ [0] ↔ a ∈ SS l e := fun a => by unfold SS; rw [if_pos h1]
  have hTs : Sd0 [0] := fun p q k1 k2 => by simp at k2; omega
  have hTb : Bd [0] := fun v hv => by simp at hv; subst hv; exact ⟨by decide, by decide⟩
  have hTl : [0].length = 1 := rfl
  intro _
  refine loop2 tt_ok [20] [] 10 (fun k : { k : Nat // k ≤ [0].length ∧ ∀ i, i < k → ¬ Fe l e (raw [0] i) } => [(20, .int .i64 (k.1 : Nat))]) (fun _ => []) (fun k => [0].length - k.1) ⟨0, Nat.zero_le _, fun i h => by omega⟩ ?_
  intro _
  refine ⟨⟨th [] 10, rfl, rfl, rfl, rfl, rfl, rfl, ?_, ?_⟩, ?_⟩
  ·and_intros<;>try first|exact trivial|exact rfl
  ·and_intros<;>try first|exact trivial|exact rfl
  intro ⟨k, hk, hno⟩
  have hk : k ≤ [0].length := hk
  intro _; refine ⟨fun g => ?_, fun g => ?_⟩
  rotate_left
  ·have g := of_decide_eq_false (show decide ((k : Int) < ((1 : Nat) : Int)) = false from g)
   have hkT : k = [0].length := by omega
   refine ⟨⟨e + 1, ⟨by omega, by omega⟩, fun e' a h1 h2 h3 => ?_⟩, by show 17 - (e + 1) < 17 - e; omega, th [] 9, rfl, rfl, rfl, rfl, rfl, rfl, ?_, ?_⟩
   ·by_cases q : e' = e
    ·have h3' : a ∈ [0] := (hTp a).2 (by rw [← q]; exact h3)
     obtain ⟨i, hi⟩ := List.mem_iff_getElem.1 h3'
     obtain ⟨hi1, hi2⟩ := hi
     have : raw [0] i = a := by unfold raw; rw [List.getD_eq_getElem?_getD, List.getElem?_eq_getElem hi1, ← hi2]; rfl
     rw [q, ← this]; exact hno i (by omega)
    ·exact hBe e' a h1 (by omega) h3
   ·and_intros<;>try first|exact trivial|exact rfl
    show ((e + 1 : Nat) : Int) = IntKind.i64.wrap ((e : Int) + 1)
    rw [wrapS _ ⟨by omega, by omega⟩]; omega
   ·and_intros<;>try first|exact trivial|exact rfl
  have g := of_decide_eq_true (show decide ((k : Int) < ((1 : Nat) : Int)) = true from g)
  obtain ⟨a, ha⟩ : ∃ a, a = raw [0] k := ⟨_, rfl⟩
  have hab : -1000000000 ≤ a ∧ a ≤ 1000000000 := by rw [ha]; exact hTb.at k
  have haT : a ∈ SS l e := (hTp a).1 (by
   rw [ha]; unfold raw
   rw [List.getD_eq_getElem?_getD, List.getElem?_eq_getElem (by omega)]
   exact List.getElem_mem (by omega))
  have eaQ : [0].getD ((k : Nat) : Int).toNat 0 = a := by rw [ha]; rfl
  intro _; refine ⟨show 0 ≤ (k : Int) ∧ (k : Int) < ((1 : Nat) : Int) by omega, ?_⟩
  intro _; refine ⟨show (k : Int).toNat < [0].length by omega, ?_⟩
  intro _
  refine yield_ok tt_ok ?_
  intro _
  refine loop2 tt_ok [7, 8, 30] [10] 11 (fun n : { n : Nat // n ≤ l.length ∧ lw l e a n ≤ hw l e a n } => [(7, .int .i64 (lw l e a n.1)), (8, .int .i64 (hw l e a n.1)), (30, .int .i64 (n.1 : Nat))]) (fun _ => [(10, .cells [.int .i64 a, .int .i64 0, .int .i64 (e : Nat)])]) (fun n => l.length - n.1) ⟨0, Nat.zero_le _, by simp [lw, hw]⟩ ?_
  intro _
  refine ⟨⟨th [] 11, rfl, rfl, rfl, rfl, rfl, rfl, ?_, ?_⟩, ?_⟩
  ·and_intros<;>try first|exact trivial|exact rfl
  ·and_intros<;>try first|exact trivial|exact rfl
   exact eaQ.symm
  intro ⟨n, hn, hfe⟩
  have hn : n ≤ l.length := hn
  have lb := lw_bd hC hd hab hl4 n hn
  intro _; refine ⟨fun g => ?_, fun g => ?_⟩
  rotate_left
  ·have g := of_decide_eq_false (show decide ((n : Int) < (l.length : Int)) = false from g)
   have hnl : n = l.length := by omega
   subst hnl
   intro _
   intro _
   intro _
   refine ⟨?_, rfl⟩
   unfold FitR
   rw [if_neg (by omega), if_neg (fun h => h.elim (fun q => by omega) (fun q => q hC))]
   refine .inl ⟨e, a, hd, haT, ?_, hBe, fun a' h1' h2' => ?_, rfl⟩
   ·exact hfe
   ·obtain ⟨i, hi⟩ := List.mem_iff_getElem.1 ((hTp a').2 h1')
    obtain ⟨hi1, hi2⟩ := hi
    have er : raw [0] i = a' := by unfold raw; rw [List.getD_eq_getElem?_getD, List.getElem?_eq_getElem hi1, ← hi2]; rfl
    have hik : i < k := by
     by_cases q : i < k
     ·exact q
     ·by_cases q2 : i = k
      ·rw [← er, q2, ← ha] at h2'; omega
      ·have := hTs k i (by omega) hi1
       unfold at' at this
       rw [er, ← ha] at this; omega
    rw [← er]; exact hno i hik
  have g := of_decide_eq_true (show decide ((n : Int) < (l.length : Int)) = true from g)
  have vb := vd_bd hC hd hab hl4 (k := n) (by omega)
  have lb2 := lw_bd hC hd hab hl4 (n + 1) (by omega)
  have ev : l.getD (0 + ((n : Nat) : Int).toNat) 0 = raw l n := by rw [Nat.zero_add]; rfl
  intro _; refine ⟨show 0 ≤ (n : Int) ∧ (n : Int) < (l.length : Int) by omega, ?_⟩
  intro _; refine ⟨show 0 + (n : Int).toNat < l.length by omega, ?_⟩
  have eLow : IntKind.i64.wrap (IntKind.i64.wrap ((e : Int) * l.getD (0 + ((n : Nat) : Int).toNat) 0) - IntKind.i64.wrap (a * (n : Int))) = (e : Int) * raw l n - a * n := by
   rw [ev, wrapS ((e : Int) * raw l n) ⟨by omega, by omega⟩, wrapS (a * (n : Int)) ⟨by omega, by omega⟩, wrapS _ ⟨by omega, by omega⟩]
  have eMx : max (lw l e a n) (IntKind.i64.wrap (IntKind.i64.wrap ((e : Int) * l.getD (0 + ((n : Nat) : Int).toNat) 0) - IntKind.i64.wrap (a * (n : Int)))) = lw l e a (n + 1) := by rw [eLow]; rfl
  have eMn : min (hw l e a n) (IntKind.i64.wrap (IntKind.i64.wrap (IntKind.i64.wrap (IntKind.i64.wrap ((e : Int) * l.getD (0 + ((n : Nat) : Int).toNat) 0) - IntKind.i64.wrap (a * (n : Int))) + (e : Int)) - 1)) = hw l e a (n + 1) := by
   rw [eLow, wrapS ((e : Int) * raw l n - a * n + e) ⟨by omega, by omega⟩, wrapS _ ⟨by omega, by omega⟩]; rfl
  intro _; refine ⟨by kernel_rfl, ?_⟩
  intro _; refine ⟨fun g => ?_, fun g => ?_⟩
  ·have g2 : decide (max (lw l e a n) (IntKind.i64.wrap (IntKind.i64.wrap ((e : Int) * l.getD (0 + ((n : Nat) : Int).toNat) 0) - IntKind.i64.wrap (a * (n : Int)))) > min (hw l e a n) (IntKind.i64.wrap (IntKind.i64.wrap (IntKind.i64.wrap (IntKind.i64.wrap ((e : Int) * l.getD (0 + ((n : Nat) : Int).toNat) 0) - IntKind.i64.wrap (a * (n : Int))) + (e : Int)) - 1))) = true := g
   rw [eMx, eMn] at g2
   have g2 := of_decide_eq_true g2
   have hnf : ¬ Fe l e a := not_fe (k := n + 1) (by omega) g2
   intro _
   refine ⟨⟨k + 1, by show k + 1 ≤ [0].length; omega, fun i hi => ?_⟩, by show [0].length - (k + 1) < [0].length - k; omega, th [] 10, rfl, rfl, rfl, rfl, rfl, rfl, ?_, ?_⟩
   ·by_cases q : i = k
    ·rw [q, ← ha]; exact hnf
    ·exact hno i (by omega)
   ·and_intros<;>try first|exact trivial|exact rfl
    exact (wrap_nat k (by omega)).symm
   ·and_intros<;>try first|exact trivial|exact rfl
  have g2 : decide (max (lw l e a n) (IntKind.i64.wrap (IntKind.i64.wrap ((e : Int) * l.getD (0 + ((n : Nat) : Int).toNat) 0) - IntKind.i64.wrap (a * (n : Int)))) > min (hw l e a n) (IntKind.i64.wrap (IntKind.i64.wrap (IntKind.i64.wrap (IntKind.i64.wrap ((e : Int) * l.getD (0 + ((n : Nat) : Int).toNat) 0) - IntKind.i64.wrap (a * (n : Int))) + (e : Int)) - 1))) = false := g
  rw [eMx, eMn] at g2
  have g2 := of_decide_eq_false g2
  refine ⟨⟨n + 1, by omega, by omega⟩, by show l.length - (n + 1) < l.length - n; omega, th [] 11, rfl, rfl, rfl, rfl, rfl, rfl, ?_, ?_⟩
  ·and_intros<;>try first|exact trivial|exact rfl
   ·exact eMx.symm
   ·exact eMn.symm
   ·exact (wrap_nat n (by omega)).symm
  ·and_intros<;>try first|exact trivial|exact rfl
 refine call_new [(0, some 0)] (slopes_ok l e hC (by omega) hl4 hd) rfl rfl rfl rfl ?_ ?_ ?_
 ·and_intros<;>try first|exact trivial|exact rfl
 ·and_intros<;>try first|exact trivial|exact rfl
 intro v h' hv
 obtain ⟨rfl, rfl⟩ := hv
 refine ⟨[(9, some 1)], 10, [(9, .arr [.int .i64] .grow (.ints (slopes l e)))], .grw 9 (slopes l e).length, rfl, rfl, rfl, rfl, rfl, ?_, ?_, ?_⟩
 ·and_intros<;>try first|exact trivial|exact rfl
 ·and_intros<;>try first|exact trivial|exact rfl
 have cb := cnt_bd (l := l) (d := e) (by omega) hd
 have sl : (slopes l e).length = cntS l e := seqI_len _ _
 intro _
 refine call_mut [(0, some 9)] (sort_ok (slopes l e) (slopes_bd l e) (by omega)) rfl rfl rfl rfl ?_ ?_ ?_
 ·and_intros<;>try first|exact trivial|exact rfl
 ·and_intros<;>try first|exact trivial|exact rfl
 intro v h' ⟨T, ⟨hTq, hTs⟩, hv, hd2⟩
 subst hv
 refine ⟨_, mut1 hd2, rfl, ?_⟩
 have hTp : ∀ a, a ∈ T ↔ a ∈ SS l e := fun a => by rw [hTq.mem_iff]; unfold SS; rw [if_neg h1]
 have hTb : Bd T := fun v hv => slopes_bd l e v (hTq.mem_iff.1 hv)
 have hTl : T.length = (slopes l e).length := hTq.length_eq
 intro _
 refine loop2 tt_ok [20] [] 10 (fun k : { k : Nat // k ≤ T.length ∧ ∀ i, i < k → ¬ Fe l e (raw T i) } => [(20, .int .i64 (k.1 : Nat))]) (fun _ => []) (fun k => T.length - k.1) ⟨0, Nat.zero_le _, fun i h => by omega⟩ ?_
 intro _
 refine ⟨⟨th [] 10, rfl, rfl, rfl, rfl, rfl, rfl, ?_, ?_⟩, ?_⟩
 ·and_intros<;>try first|exact trivial|exact rfl
 ·and_intros<;>try first|exact trivial|exact rfl
 intro ⟨k, hk, hno⟩
 have hk : k ≤ T.length := hk
 intro _; refine ⟨fun g => ?_, fun g => ?_⟩
 rotate_left
 ·have g := of_decide_eq_false (show decide ((k : Int) < ((slopes l e).length : Int)) = false from g)
  have hkT : k = T.length := by omega
  refine ⟨⟨e + 1, ⟨by omega, by omega⟩, fun e' a h1 h2 h3 => ?_⟩, by show 17 - (e + 1) < 17 - e; omega, th [] 9, rfl, rfl, rfl, rfl, rfl, rfl, ?_, ?_⟩
  ·by_cases q : e' = e
   ·have h3' : a ∈ T := (hTp a).2 (by rw [← q]; exact h3)
    obtain ⟨i, hi⟩ := List.mem_iff_getElem.1 h3'
    obtain ⟨hi1, hi2⟩ := hi
    have : raw T i = a := by unfold raw; rw [List.getD_eq_getElem?_getD, List.getElem?_eq_getElem hi1, ← hi2]; rfl
    rw [q, ← this]; exact hno i (by omega)
   ·exact hBe e' a h1 (by omega) h3
  ·and_intros<;>try first|exact trivial|exact rfl
   show ((e + 1 : Nat) : Int) = IntKind.i64.wrap ((e : Int) + 1)
   rw [wrapS _ ⟨by omega, by omega⟩]; omega
  ·and_intros<;>try first|exact trivial|exact rfl
 have g := of_decide_eq_true (show decide ((k : Int) < ((slopes l e).length : Int)) = true from g)
 obtain ⟨a, ha⟩ : ∃ a, a = raw T k := ⟨_, rfl⟩
 have hab : -1000000000 ≤ a ∧ a ≤ 1000000000 := by rw [ha]; exact hTb.at k
 have haT : a ∈ SS l e := (hTp a).1 (by
  rw [ha]; unfold raw
  rw [List.getD_eq_getElem?_getD, List.getElem?_eq_getElem (by omega)]
  exact List.getElem_mem (by omega))
 have eaQ : T.getD ((k : Nat) : Int).toNat 0 = a := by rw [ha]; rfl
 intro _; refine ⟨show 0 ≤ (k : Int) ∧ (k : Int) < ((slopes l e).length : Int) by omega, ?_⟩
 intro _; refine ⟨show (k : Int).toNat < T.length by omega, ?_⟩
 intro _
 refine yield_ok tt_ok ?_
 intro _
 refine loop2 tt_ok [7, 8, 30] [10] 11 (fun n : { n : Nat // n ≤ l.length ∧ lw l e a n ≤ hw l e a n } => [(7, .int .i64 (lw l e a n.1)), (8, .int .i64 (hw l e a n.1)), (30, .int .i64 (n.1 : Nat))]) (fun _ => [(10, .cells [.int .i64 a, .int .i64 0, .int .i64 (e : Nat)])]) (fun n => l.length - n.1) ⟨0, Nat.zero_le _, by simp [lw, hw]⟩ ?_
 intro _
 refine ⟨⟨th [] 11, rfl, rfl, rfl, rfl, rfl, rfl, ?_, ?_⟩, ?_⟩
 ·and_intros<;>try first|exact trivial|exact rfl
 ·and_intros<;>try first|exact trivial|exact rfl
  exact eaQ.symm
 intro ⟨n, hn, hfe⟩
 have hn : n ≤ l.length := hn
 have lb := lw_bd hC hd hab hl4 n hn
 intro _; refine ⟨fun g => ?_, fun g => ?_⟩
 rotate_left
 ·have g := of_decide_eq_false (show decide ((n : Int) < (l.length : Int)) = false from g)
  have hnl : n = l.length := by omega
  subst hnl
  intro _
  intro _
  intro _
  refine ⟨?_, rfl⟩
  unfold FitR
  rw [if_neg (by omega), if_neg (fun h => h.elim (fun q => by omega) (fun q => q hC))]
  refine .inl ⟨e, a, hd, haT, ?_, hBe, fun a' h1' h2' => ?_, rfl⟩
  ·exact hfe
  ·obtain ⟨i, hi⟩ := List.mem_iff_getElem.1 ((hTp a').2 h1')
   obtain ⟨hi1, hi2⟩ := hi
   have er : raw T i = a' := by unfold raw; rw [List.getD_eq_getElem?_getD, List.getElem?_eq_getElem hi1, ← hi2]; rfl
   have hik : i < k := by
    by_cases q : i < k
    ·exact q
    ·by_cases q2 : i = k
     ·rw [← er, q2, ← ha] at h2'; omega
     ·have := hTs k i (by omega) hi1
      unfold at' at this
      rw [er, ← ha] at this; omega
   rw [← er]; exact hno i hik
 have g := of_decide_eq_true (show decide ((n : Int) < (l.length : Int)) = true from g)
 have vb := vd_bd hC hd hab hl4 (k := n) (by omega)
 have lb2 := lw_bd hC hd hab hl4 (n + 1) (by omega)
 have ev : l.getD (0 + ((n : Nat) : Int).toNat) 0 = raw l n := by rw [Nat.zero_add]; rfl
 intro _; refine ⟨show 0 ≤ (n : Int) ∧ (n : Int) < (l.length : Int) by omega, ?_⟩
 intro _; refine ⟨show 0 + (n : Int).toNat < l.length by omega, ?_⟩
 have eLow : IntKind.i64.wrap (IntKind.i64.wrap ((e : Int) * l.getD (0 + ((n : Nat) : Int).toNat) 0) - IntKind.i64.wrap (a * (n : Int))) = (e : Int) * raw l n - a * n := by
  rw [ev, wrapS ((e : Int) * raw l n) ⟨by omega, by omega⟩, wrapS (a * (n : Int)) ⟨by omega, by omega⟩, wrapS _ ⟨by omega, by omega⟩]
 have eMx : max (lw l e a n) (IntKind.i64.wrap (IntKind.i64.wrap ((e : Int) * l.getD (0 + ((n : Nat) : Int).toNat) 0) - IntKind.i64.wrap (a * (n : Int)))) = lw l e a (n + 1) := by rw [eLow]; rfl
 have eMn : min (hw l e a n) (IntKind.i64.wrap (IntKind.i64.wrap (IntKind.i64.wrap (IntKind.i64.wrap ((e : Int) * l.getD (0 + ((n : Nat) : Int).toNat) 0) - IntKind.i64.wrap (a * (n : Int))) + (e : Int)) - 1)) = hw l e a (n + 1) := by
  rw [eLow, wrapS ((e : Int) * raw l n - a * n + e) ⟨by omega, by omega⟩, wrapS _ ⟨by omega, by omega⟩]; rfl
 intro _; refine ⟨by kernel_rfl, ?_⟩
 intro _; refine ⟨fun g => ?_, fun g => ?_⟩
 ·have g2 : decide (max (lw l e a n) (IntKind.i64.wrap (IntKind.i64.wrap ((e : Int) * l.getD (0 + ((n : Nat) : Int).toNat) 0) - IntKind.i64.wrap (a * (n : Int)))) > min (hw l e a n) (IntKind.i64.wrap (IntKind.i64.wrap (IntKind.i64.wrap (IntKind.i64.wrap ((e : Int) * l.getD (0 + ((n : Nat) : Int).toNat) 0) - IntKind.i64.wrap (a * (n : Int))) + (e : Int)) - 1))) = true := g
  rw [eMx, eMn] at g2
  have g2 := of_decide_eq_true g2
  have hnf : ¬ Fe l e a := not_fe (k := n + 1) (by omega) g2
  intro _
  refine ⟨⟨k + 1, by show k + 1 ≤ T.length; omega, fun i hi => ?_⟩, by show T.length - (k + 1) < T.length - k; omega, th [] 10, rfl, rfl, rfl, rfl, rfl, rfl, ?_, ?_⟩
  ·by_cases q : i = k
   ·rw [q, ← ha]; exact hnf
   ·exact hno i (by omega)
  ·and_intros<;>try first|exact trivial|exact rfl
   exact (wrap_nat k (by omega)).symm
  ·and_intros<;>try first|exact trivial|exact rfl
 have g2 : decide (max (lw l e a n) (IntKind.i64.wrap (IntKind.i64.wrap ((e : Int) * l.getD (0 + ((n : Nat) : Int).toNat) 0) - IntKind.i64.wrap (a * (n : Int)))) > min (hw l e a n) (IntKind.i64.wrap (IntKind.i64.wrap (IntKind.i64.wrap (IntKind.i64.wrap ((e : Int) * l.getD (0 + ((n : Nat) : Int).toNat) 0) - IntKind.i64.wrap (a * (n : Int))) + (e : Int)) - 1))) = false := g
 rw [eMx, eMn] at g2
 have g2 := of_decide_eq_false g2
 refine ⟨⟨n + 1, by omega, by omega⟩, by show l.length - (n + 1) < l.length - n; omega, th [] 11, rfl, rfl, rfl, rfl, rfl, rfl, ?_, ?_⟩
 ·and_intros<;>try first|exact trivial|exact rfl
  ·exact eMx.symm
  ·exact eMn.symm
  ·exact (wrap_nat n (by omega)).symm
 ·and_intros<;>try first|exact trivial|exact rfl
def apre (n : Nat) : AC → AC
 | .ints l => .ints (l.take n)
 | .recs l => .recs (l.take n)
theorem rowAV_len : ∀ (ks : List CK) (j : Nat) (ds : List D), (rowAV ks j ds).length = ks.length
 | [], _, _ => rfl
 | c :: ks, j, ds => by simp [rowAV, rowAV_len ks (j + 1) ds]
theorem flat_take {g : List D → List Go.Vm.AV} {z : Nat} (hg : ∀ d, (g d).length = z) : ∀ (l : List (List D)) (n : Nat), n ≤ l.length → (l.flatMap g).take (n * z) = (l.take n).flatMap g
 | [], n, h => by
  have : n = 0 := by simpa using h
  subst this; simp
 | d :: l, 0, h => by simp
 | d :: l, n + 1, h => by
  have ih := flat_take hg l n (by simpa using h)
  simp only [List.flatMap_cons, List.take_succ_cons]
  have e : (n + 1) * z = (g d).length + n * z := by rw [hg, Nat.add_mul]; omega
  rw [e, List.take_length_add_append, ih]
theorem avs_take {ks : List CK} {a : AC} {n : Nat} (hk : ksOk ks a) (h : n ≤ a.len) : (a.avs ks).take (n * ks.length) = (apre n a).avs ks := by
 cases a with
 | ints l =>
  obtain ⟨k, rfl⟩ := hk
  simp only [AC.avs, apre, List.length_singleton, Nat.mul_one, List.map_take]
 | recs l =>
  simp only [AC.avs, apre]
  exact flat_take (fun d => rowAV_len ks 0 d) l n h
theorem apre_len {a : AC} {n : Nat} (h : n ≤ a.len) : (apre n a).len = n := by
 cases a <;> simp [apre, AC.len] at h ⊢ <;> omega
theorem row_pre {ks : List CK} {a : AC} {n B b0 : Nat} {r : Go.Vm.AO} (hk : ksOk ks a) (h : n ≤ a.len) (hr : RowOk .rd ks a B b0 r) : RowOk .rd ks (apre n a) B b0 r := by
 cases r <;> simp only [RowOk] at hr ⊢
 obtain ⟨h1, h2, h3⟩ := hr
 have hm : n * ks.length ≤ a.len * ks.length := Nat.mul_le_mul_right _ h
 refine ⟨h1, by rw [apre_len h]; omega, ?_⟩
 rw [apre_len h, ← avs_take hk h, ← h3, List.take_take]
 congr 1
 omega
def Pre (o o' : Ob) : Prop := o = o' ∨ ∃ ks a n, n ≤ a.len ∧ o = .arr ks .rd (apre n a) ∧ o' = .arr ks .rd a
theorem Pre.own {o o' : Ob} (h : Pre o o') : o.own = o'.own := by
 rcases h with rfl | ⟨ks, a, n, _, rfl, rfl⟩ <;> rfl
theorem Pre.live {o o' : Ob} (h : Pre o o') : o.live = o'.live := by
 rcases h with rfl | ⟨ks, a, n, _, rfl, rfl⟩ <;> rfl
theorem Pre.held {o o' : Ob} {n x : Nat} {ν : Nu} {g : Nat → Option Go.Vm.AO} (h : Pre o o') (hh : Go.Vm2.Held n ν x o' g) : Go.Vm2.Held n ν x o g := by
 rcases h with rfl | ⟨ks, a, m, hm, rfl, rfl⟩
 ·exact hh
 ·simp only [Go.Vm2.Held] at hh ⊢
  obtain ⟨k1, k2⟩ := hh
  refine ⟨?_, ?_⟩
  ·cases a <;> exact k1
  ·rcases k2 with ⟨k2, k3⟩ | ⟨B, b0, r, k2, k3, k4⟩
   ·exact .inl ⟨k2, by rw [apre_len hm]; omega⟩
   ·exact .inr ⟨B, b0, r, k2, k3, row_pre k1 hm k4⟩
theorem weak {fid : FuncId} {args : List V} {h h0 : H} {K : V → H → Prop} (hs : SemF Try.prog fid args h0 K) (hnx : h0.nx = h.nx) (hfz : h0.fz = h.fz) (hw : ∀ x o, h0.get x = some o → ∃ o', h.get x = some o' ∧ Pre o o') : SemF Try.prog fid args h K := by
 refine ⟨fun c ν s aa hR hA => ?_⟩
 have hR0 : R c ν h0 s := {
  ok := hR.ok
  obj := fun x o ho => by
   obtain ⟨o', h1, h2⟩ := hw x o ho
   rw [hnx]; exact h2.held (hR.obj x o' h1)
  lt := fun x o ho => by
   obtain ⟨o', h1, h2⟩ := hw x o ho
   rw [hnx]; exact hR.lt x o' h1
  sep := fun x y o o' B B' b b' hxy ho ho' hf hown hlive => by
   obtain ⟨p, h1, h2⟩ := hw x o ho
   obtain ⟨p', h3, h4⟩ := hw y o' ho'
   exact hR.sep x y p p' B B' b b' hxy h1 h3 (by rw [← hfz]; exact hf) (by rw [← h2.own]; exact hown) (by rw [← h4.live]; exact hlive)
  gsep := fun x o B b b' ho hf hown => by
   obtain ⟨p, h1, h2⟩ := hw x o ho
   exact hR.gsep x p B b b' h1 (by rw [← hfz]; exact hf) (by rw [← h2.own]; exact hown)
  froz := hR.froz
  kin := hR.kin
  th := fun D hD => by
   obtain ⟨k1, k2, k3, k4⟩ := hR.th D hD
   refine ⟨k1, k2, k3, fun x o B b ho hf hown => ?_⟩
   obtain ⟨p, h1, h2⟩ := hw x o ho
   exact k4 x p B b h1 (by rw [← hfz]; exact hf) (by rw [← h2.own]; exact hown)
  tc := hR.tc
  p_le := by rw [hnx]; exact hR.p_le
  lo_le := hR.lo_le
  new := fun x B b h1 h2 => hR.new x B b h1 (by rw [← hnx]; exact h2)
  blk := fun x B b h1 => hR.blk x B b (by rw [← hnx]; exact h1)
  snap := hR.snap }
 obtain ⟨N, a, s', v, h', ν', r1, r2, r3, r4, r5⟩ := hs.run c ν s aa hR0 (by rw [hnx]; exact hA)
 exact ⟨N, a, s', v, h', ν', r1, r2, r3, r4, ⟨fun x hx => r5.same x (by rw [hnx]; exact hx), by rw [← hnx]; exact r5.nx, by rw [← hfz]; exact r5.fz, r5.n, fun x B b h1 h2 => r5.new x B b (by rw [hnx]; exact h1) h2⟩⟩
theorem raw_take {L : List Int} {n i : Nat} (h : i < n) : raw (L.take n) i = raw L i := by
 unfold raw; rw [List.getD_eq_getElem?_getD, List.getD_eq_getElem?_getD, List.getElem?_take_of_lt h]
theorem tk_len {L : List Int} {n : Nat} (h : n ≤ L.length) : (L.take n).length = n := by simp; omega
theorem pre_dv {l : List Int} {n : Nat} (hn : n ≤ l.length) (x : Nat) (o : Ob) (h : (⟨1, 1, DV (l.take n)⟩ : H).get x = some o) : ∃ o', (⟨1, 1, DV l⟩ : H).get x = some o' ∧ Pre o o' := by
 unfold H.get at h ⊢
 simp only [look_cons] at h ⊢
 split at h
 ·rename_i e
  rw [if_pos e]
  cases h
  exact ⟨_, rfl, .inr ⟨_, .ints l, n, hn, rfl, rfl⟩⟩
 ·cases h
theorem Fit_pre (l : List Int) (n : Nat) (hn : n ≤ l.length) (hl : l.length ≤ 9223372036854775807) : SemF Try.prog 70 [.slc 0 1 0 n] ⟨1, 1, DV l⟩ (fun v _ => FitR (l.take n) v ∧ nameless v = true) := by
 have h := Fit_ok (l.take n) (by rw [tk_len hn]; omega)
 rw [tk_len hn] at h
 exact weak h rfl rfl (pre_dv hn)
theorem Kx_inj2 {a b : Int} (h : Kx a = Kx b) : a = b := by
 unfold Kx at h
 split at h <;> split at h <;> omega
theorem FitR.uniq {l : List Int} {v w : V} (h : FitR l v) (k : FitR l w) : v = w := by
 unfold FitR at h k
 split at h
 ·rename_i c; rw [if_pos c] at k; rw [h, k]
 rename_i c
 rw [if_neg c] at k
 split at h
 ·rename_i c2; rw [if_pos c2] at k; rw [h, k]
 rename_i c2
 rw [if_neg c2] at k
 rcases h with ⟨d, a, hd, ha, hf, hb, hm, rfl⟩ | ⟨hb, rfl⟩
 ·rcases k with ⟨d', a', hd', ha', hf', hb', hm', rfl⟩ | ⟨hb', rfl⟩
  ·have ed : d = d' := by
    rcases Int.lt_trichotomy d d' with q | q | q
    ·exact absurd hf (hb' d a hd.1 q ha)
    ·exact q
    ·exact absurd hf' (hb d' a' hd'.1 q ha')
   subst ed
   have ea : a = a' := by
    rcases Int.lt_trichotomy (Kx a) (Kx a') with q | q | q
    ·exact absurd hf (hm' a ha q)
    ·exact Kx_inj2 q
    ·exact absurd hf' (hm a' ha' q)
   subst ea
   rfl
  ·exact absurd hf (hb' d a hd.1 (by omega) ha)
 ·rcases k with ⟨d', a', hd', ha', hf', hb', hm', rfl⟩ | ⟨hb', rfl⟩
  ·exact absurd hf' (hb d' a' hd'.1 (by omega) ha')
  ·rfl
def loS (l : List Int) (d : Int) : Int := -(fl (d - 1 - rise l d) (l.length - 1))
def hiS (l : List Int) (d : Int) : Int := fl (rise l d + d - 1) (l.length - 1)
theorem mem_slopes {l : List Int} {d x : Int} : x ∈ slopes l d ↔ loS l d ≤ x ∧ x ≤ hiS l d ∧ Cd x := by
 unfold slopes
 rw [mem_seqI]
 unfold cntS fromS untilS loS hiS Cd
 omega
theorem fl_uniq {n d x r : Int} (hd : 1 ≤ d) (h1 : d * x ≤ n) (h2 : n < d * x + d) (k1 : d * r ≤ n) (k2 : n < d * r + d) : x = r := by
 rcases Int.lt_trichotomy x r with q | q | q
 ·have := Int.mul_le_mul_of_nonneg_left (show x + 1 ≤ r by omega) (show 0 ≤ d by omega)
  rw [Int.mul_add, Int.mul_one] at this; omega
 ·exact q
 ·have := Int.mul_le_mul_of_nonneg_left (show r + 1 ≤ x by omega) (show 0 ≤ d by omega)
  rw [Int.mul_add, Int.mul_one] at this; omega
def Ft (a b d : Int) (l : List Int) : Prop := ∀ i, i < l.length → qv a b d i = raw l i
instance decFt (a b d : Int) (l : List Int) : Decidable (Ft a b d l) := inferInstanceAs (Decidable (∀ i, i < l.length → _))
theorem qv_iff {a b d r : Int} (hd : 1 ≤ d) (i : Nat) : qv a b d i = r ↔ d * r - a * i ≤ b ∧ b ≤ d * r - a * i + d - 1 := by
 have f := fl_spec (a * i + b) d hd
 unfold qv
 constructor
 ·intro h; rw [h] at f; omega
 ·intro h; exact fl_uniq hd f.1 f.2 (by omega) (by omega)
theorem lw_ge {l : List Int} {d a : Int} : ∀ {k i : Nat}, i < k → d * raw l i - a * i ≤ lw l d a k
 | k + 1, i, h => by
  by_cases e : i = k
  ·subst e; simp only [lw]; omega
  ·have := lw_ge (l := l) (d := d) (a := a) (k := k) (i := i) (by omega)
   simp only [lw]; omega
theorem hw_le {l : List Int} {d a : Int} : ∀ {k i : Nat}, i < k → hw l d a k ≤ d * raw l i - a * i + d - 1
 | k + 1, i, h => by
  by_cases e : i = k
  ·subst e; simp only [hw]; omega
  ·have := hw_le (l := l) (d := d) (a := a) (k := k) (i := i) (by omega)
   simp only [hw]; omega
theorem lw_min {l : List Int} {d a b : Int} (hb : -1000000000 ≤ b) : ∀ {k : Nat}, (∀ i : Nat, i < k → d * raw l i - a * i ≤ b) → lw l d a k ≤ b
 | 0, _ => hb
 | k + 1, h => by
  have h1 := lw_min hb (k := k) (fun i hi => h i (by omega))
  have h2 := h k (by omega)
  simp only [lw]; omega
theorem hw_max {l : List Int} {d a b : Int} (hb : b ≤ 1000000000) : ∀ {k : Nat}, (∀ i : Nat, i < k → b ≤ d * raw l i - a * i + d - 1) → b ≤ hw l d a k
 | 0, _ => hb
 | k + 1, h => by
  have h1 := hw_max hb (k := k) (fun i hi => h i (by omega))
  have h2 := h k (by omega)
  simp only [hw]; omega
theorem lw_lo (l : List Int) (d a : Int) (k : Nat) : -1000000000 ≤ lw l d a k := lw_mono l d a 0 k (Nat.zero_le _)
theorem hw_hi (l : List Int) (d a : Int) (k : Nat) : hw l d a k ≤ 1000000000 := hw_mono l d a 0 k (Nat.zero_le _)
theorem fe_ft {l : List Int} {d a : Int} (hd : 1 ≤ d) (h : Fe l d a) : Ft a (lw l d a l.length) d l ∧ Cd (lw l d a l.length) := by
 unfold Fe at h
 refine ⟨fun i hi => (qv_iff hd i).2 ⟨lw_ge hi, ?_⟩, lw_lo l d a _, ?_⟩
 ·have := hw_le (l := l) (d := d) (a := a) hi
  omega
 ·have := hw_hi l d a l.length
  omega
theorem ft_bd {l : List Int} {a b d : Int} (hq : Qv a b d) (h : Ft a b d l) : lw l d a l.length ≤ b ∧ b ≤ hw l d a l.length :=
 ⟨lw_min hq.2.2.1 fun i hi => ((qv_iff hq.1.1 i).1 (h i hi)).1, hw_max hq.2.2.2 fun i hi => ((qv_iff hq.1.1 i).1 (h i hi)).2⟩
theorem fl_ge {n d x : Int} (hd : 1 ≤ d) (h : d * x ≤ n) : x ≤ fl n d := by
 have f := fl_spec n d hd
 by_cases q : x ≤ fl n d
 ·exact q
 ·have := Int.mul_le_mul_of_nonneg_left (show fl n d + 1 ≤ x by omega) (show 0 ≤ d by omega)
  rw [Int.mul_add, Int.mul_one] at this; omega
theorem ft_mem {l : List Int} {a b d : Int} (hq : Qv a b d) (h : Ft a b d l) (hl : 2 ≤ l.length) : a ∈ SS l d := by
 have h0 := (qv_iff hq.1.1 0).1 (h 0 (by omega))
 have h1 := (qv_iff hq.1.1 (l.length - 1)).1 (h (l.length - 1) (by omega))
 have e : ((l.length - 1 : Nat) : Int) = (l.length : Int) - 1 := by omega
 rw [e] at h1
 have ez : a * ((0 : Nat) : Int) = 0 := by simp
 rw [ez] at h0
 have er : rise l d = d * raw l (l.length - 1) - d * raw l 0 := by unfold rise; rw [Int.mul_sub]
 have ec : ((l.length : Int) - 1) * a = a * ((l.length : Int) - 1) := Int.mul_comm _ _
 have en : ((l.length : Int) - 1) * (-a) = -(a * ((l.length : Int) - 1)) := by rw [Int.mul_neg, ec]
 unfold SS
 rw [if_neg (by omega), mem_slopes]
 have k1 : a ≤ hiS l d := by unfold hiS; exact fl_ge (by omega) (by rw [ec, er]; omega)
 have k2 : -a ≤ fl (d - 1 - rise l d) (l.length - 1) := fl_ge (by omega) (by rw [en, er]; omega)
 exact ⟨by unfold loS; omega, k1, hq.2.1⟩
theorem one_lw {l : List Int} (h1 : l.length = 1) (d a : Int) : lw l d a l.length = lw l d 0 l.length ∧ hw l d a l.length = hw l d 0 l.length := by
 rw [h1]; simp [lw, hw]
def Bfr (a b d a' b' d' : Int) : Prop :=
 if d ≠ d' then d < d' else if max a (-a) ≠ max a' (-a') then max a (-a) < max a' (-a') else a < a' ∨ (a = a' ∧ b < b')
instance decBfr (a b d a' b' d' : Int) : Decidable (Bfr a b d a' b' d') := by unfold Bfr; infer_instance
theorem best {l : List Int} (hC : AllC l) (h1 : 1 ≤ l.length) (hl : l.length ≤ 4000) {v : V} (hv : FitR l v) {A B D : Int} (hq : Qv A B D) (hf : Ft A B D l) :
  ∃ a b d, v = .tup [QV a b d, .bool true, .int .i64 0] ∧ Qv a b d ∧ Ft a b d l ∧ ¬ Bfr A B D a b d := by
 unfold FitR at hv
 rw [if_neg (by omega), if_neg (fun h => h.elim (fun q => by omega) (fun q => q hC))] at hv
 have hb := ft_bd hq hf
 have key : ∃ A', A' ∈ SS l D ∧ Fe l D A' := by
  by_cases e : l.length = 1
  ·have o := one_lw e D A
   exact ⟨0, by unfold SS; rw [if_pos e]; simp, by unfold Fe; omega⟩
  ·exact ⟨A, ft_mem hq hf (by omega), by unfold Fe; omega⟩
 obtain ⟨A', hA', hfA'⟩ := key
 rcases hv with ⟨d, a, hd, ha, hfe, hbe, hmin, rfl⟩ | ⟨hbe, rfl⟩
 ·have ft := fe_ft hd.1 hfe
  refine ⟨a, _, d, rfl, ⟨hd, ?_, ft.2⟩, ft.1, ?_⟩
  ·unfold SS at ha
   split at ha
   ·simp at ha; subst ha; exact ⟨by decide, by decide⟩
   ·exact slopes_bd l d a ha
  ·unfold Bfr
   intro hB
   split at hB
   ·exact hbe D A' hq.1.1 hB hA' hfA'
   ·rename_i eD
    have eD : D = d := Decidable.of_not_not eD
    subst eD
    by_cases e : l.length = 1
    ·have ea : a = 0 := by unfold SS at ha; rw [if_pos e] at ha; simpa using ha
     subst ea
     have o := one_lw e D A
     split at hB
     ·omega
     ·rename_i q
      rcases hB with hB | ⟨hB, hB2⟩
      ·omega
      ·omega
    ·have hAm := ft_mem hq hf (by omega)
     have hk : ¬ Kx A < Kx a := fun q => hmin A hAm q (by unfold Fe; omega)
     split at hB
     ·exact hk (by unfold Kx; split <;> split <;> omega)
     ·rename_i q
      rcases hB with hB | ⟨hB, hB2⟩
      ·exact hk (by unfold Kx; split <;> split <;> omega)
      ·subst hB; omega
 ·exact absurd hfA' (hbe D A' hq.1.1 (by have := hq.1.2; omega) hA')
theorem fit_forms {l : List Int} (hC : AllC l) (h1 : 1 ≤ l.length) (hl : l.length ≤ 4000) {v : V} (hv : FitR l v) :
  (∃ a b d, v = .tup [QV a b d, .bool true, .int .i64 0] ∧ Qv a b d ∧ Ft a b d l) ∨ v = .tup [QV 0 0 0, .bool false, .int .i64 0] := by
 unfold FitR at hv
 rw [if_neg (by omega), if_neg (fun h => h.elim (fun q => by omega) (fun q => q hC))] at hv
 rcases hv with ⟨d, a, hd, ha, hfe, hbe, hmin, rfl⟩ | ⟨hbe, rfl⟩
 ·have ft := fe_ft hd.1 hfe
  refine .inl ⟨a, _, d, rfl, ⟨hd, ?_, ft.2⟩, ft.1⟩
  unfold SS at ha
  split at ha
  ·simp at ha; subst ha; exact ⟨by decide, by decide⟩
  ·exact slopes_bd l d a ha
 ·exact .inr rfl
def mk (a b d : Int) : Nat → List Int
 | 0 => []
 | k + 1 => mk a b d k ++ [qv a b d k]
theorem mk_len (a b d : Int) : ∀ k, (mk a b d k).length = k
 | 0 => rfl
 | k + 1 => by simp [mk, mk_len a b d k]
theorem raw_mk {a b d : Int} : ∀ (k i : Nat), i < k → raw (mk a b d k) i = qv a b d i
 | k + 1, i, h => by
  unfold raw
  rw [List.getD_eq_getElem?_getD]
  simp only [mk]
  by_cases e : i < k
  ·rw [List.getElem?_append_left (by rw [mk_len]; exact e)]
   have := raw_mk (a := a) (b := b) (d := d) k i e
   unfold raw at this
   rw [List.getD_eq_getElem?_getD] at this
   exact this
  ·have : i = k := by omega
   subst this
   rw [List.getElem?_append_right (by rw [mk_len]; exact Nat.le_refl _), mk_len]
   simp
theorem ft_take {a b d : Int} {l : List Int} {n : Nat} (h : Ft a b d l) (hn : n ≤ l.length) : Ft a b d (l.take n) := fun i hi => by
 rw [tk_len hn] at hi
 rw [raw_take hi]; exact h i (by omega)
theorem allC_take {l : List Int} {n : Nat} (h : AllC l) (hn : n ≤ l.length) : AllC (l.take n) := fun i hi => by
 rw [tk_len hn] at hi
 rw [raw_take hi]; exact h i (by omega)
def Fx (l : List Int) : Prop := ∃ a b d, Qv a b d ∧ Ft a b d l
def QF (l : List Int) (a b d : Int) : Prop := FitR l (.tup [QV a b d, .bool true, .int .i64 0])
theorem QF.uniq {l : List Int} {a b d a' b' d' : Int} (h : QF l a b d) (k : QF l a' b' d') : a = a' ∧ b = b' ∧ d = d' := by
 have := FitR.uniq h k
 simp only [V.tup.injEq, List.cons.injEq, V.agg.injEq, V.int.injEq, true_and, and_true] at this
 exact this
theorem QF.fits {l : List Int} (hC : AllC l) (h1 : 1 ≤ l.length) (hl : l.length ≤ 4000) {a b d : Int} (h : QF l a b d) : Qv a b d ∧ Ft a b d l := by
 rcases fit_forms hC h1 hl h with ⟨a', b', d', e, hq, hf⟩ | e
 ·simp only [V.tup.injEq, List.cons.injEq, V.agg.injEq, V.int.injEq, true_and, and_true] at e
  obtain ⟨rfl, rfl, rfl⟩ := e
  exact ⟨hq, hf⟩
 ·exact absurd e (by simp)
theorem QF.fx {l : List Int} (hC : AllC l) (h1 : 1 ≤ l.length) (hl : l.length ≤ 4000) {a b d : Int} (h : QF l a b d) : Fx l := ⟨a, b, d, h.fits hC h1 hl⟩
theorem fit_cases {l : List Int} (hC : AllC l) (h1 : 1 ≤ l.length) (hl : l.length ≤ 4000) {v : V} (hv : FitR l v) :
  (∃ a b d, v = .tup [QV a b d, .bool true, .int .i64 0] ∧ QF l a b d) ∨ (v = .tup [QV 0 0 0, .bool false, .int .i64 0] ∧ ¬ Fx l) := by
 rcases fit_forms hC h1 hl hv with ⟨a, b, d, rfl, hq, hf⟩ | rfl
 ·exact .inl ⟨a, b, d, rfl, hv⟩
 ·refine .inr ⟨rfl, fun ⟨A, B, D, hq, hf⟩ => ?_⟩
  obtain ⟨a, b, d, e, _⟩ := best hC h1 hl hv hq hf
  exact absurd e (by simp)
theorem Fx.take {l : List Int} (h : Fx l) {n : Nat} (hn : n ≤ l.length) : Fx (l.take n) := by
 obtain ⟨a, b, d, hq, hf⟩ := h
 exact ⟨a, b, d, hq, ft_take hf hn⟩
theorem Fx.less {l : List Int} {m n : Nat} (h : Fx (l.take n)) (hmn : m ≤ n) (hn : n ≤ l.length) : Fx (l.take m) := by
 have := h.take (n := m) (by rw [tk_len hn]; exact hmn)
 rwa [List.take_take, Nat.min_eq_left hmn] at this
theorem allC_drop {l : List Int} {n : Nat} (h : AllC l) : AllC (l.drop n) := fun i hi => by
 have e : raw (l.drop n) i = raw l (n + i) := by
  unfold raw; rw [List.getD_eq_getElem?_getD, List.getD_eq_getElem?_getD, List.getElem?_drop]
 rw [e]
 simp at hi
 exact h _ (by omega)
def Lg (l : List Int) (n : Nat) (a b d : Int) : Prop := (1 ≤ n ∧ n ≤ l.length) ∧ QF (l.take n) a b d ∧ (n < l.length → ¬ Fx (l.take (n + 1)))
theorem Lg.uniq {l : List Int} (hC : AllC l) (hl : l.length ≤ 4000) {n a b d n' a' b' d'} (h : Lg l n a b d) (k : Lg l n' a' b' d') : n = n' ∧ a = a' ∧ b = b' ∧ d = d' := by
 have key : ∀ {n a b d n' a' b' d'}, Lg l n a b d → Lg l n' a' b' d' → ¬ n < n' := by
  intro n a b d n' a' b' d' h k hlt
  have fx := k.2.1.fx (allC_take hC k.1.2) (by rw [tk_len k.1.2]; exact k.1.1) (by rw [tk_len k.1.2]; have := k.1.2; omega)
  exact h.2.2 (by have := k.1.2; omega) (fx.less (by omega) k.1.2)
 have e : n = n' := by
  have := key h k
  have := key k h
  omega
 subst e
 exact ⟨rfl, h.2.1.uniq k.2.1⟩
theorem call_sub {fid : FuncId} {k : IntKind} {l : List Int} {n : Nat} {rest : List V} {h : H} {Q : V → Prop} {K : V → H → Prop} {y o : Nat} {m : Go.Vm2.Mode} {L : List Int}
  (hc : SemF Try.prog fid (.slc 0 1 0 n :: rest) ⟨1, 1, [(0, .arr [.int k] .rd (.ints l))]⟩ (fun v _ => Q v ∧ nameless v = true))
  (hl : l = (L.drop o).take n) (hn : o + n ≤ L.length) (hy : h.get y = some (.arr [.int k] m (.ints L))) (hr : namelesss rest = true)
  (hK : ∀ v, Q v → nameless v = true → K v h) : SemF Try.prog fid (.slc y 1 o n :: rest) h K := by
 refine ⟨fun c ν s aa r has => ?_⟩
 obtain ⟨a, as', rfl, ha, has'⟩ := has.inv
 obtain ⟨hk, ho⟩ := r.obj y _ hy
 simp only [Cv] at ha
 obtain ⟨hlt, ha⟩ := ha
 have hll : l.length = n := by rw [hl, List.length_take, List.length_drop]; omega
 obtain ⟨p, hp1, hp2, hp3⟩ : ∃ p : Option (Nat × Nat), Cv 1 (fun _ => p) (.slc 0 1 0 n) a ∧ Held 1 (fun _ => p) 0 (.arr [.int k] .rd (.ints l)) s.get ∧ ∀ B b, p = some (B, b) → B < s.n := by
  rcases ha with ⟨h1, h2, rfl⟩ | ⟨B, b0, cap, o', h1, h2, h3, h4, rfl⟩
  ·refine ⟨none, ?_, ⟨⟨k, rfl⟩, .inl ⟨rfl, by show l.length = 0; omega⟩⟩, fun B b e => by cases e⟩
   simp only [Cv]; exact ⟨Nat.zero_lt_one, .inl ⟨trivial, h2, trivial⟩⟩
  ·rcases ho with ⟨q1, _⟩ | ⟨B', b0', r', k1, k2, k3⟩
   ·rw [h1] at q1; cases q1
   ·rw [h1] at k1; cases k1
    obtain ⟨cs, e, op, w, sp, f, z, rfl, g1, g2⟩ := k3.row hk
    obtain ⟨cs', e', op', w', sp', f', z', e1, g3⟩ := k3.open
    cases e1
    refine ⟨some (B, b0 + o'), ?_, ⟨⟨k, rfl⟩, .inr ⟨B, b0 + o', _, rfl, k2, ?_⟩⟩, fun B' b' e => by cases e; exact get_lt k2⟩
    ·simp only [Cv]
     exact ⟨Nat.zero_lt_one, .inr ⟨B, b0 + o', cap, 0, rfl, h2, Nat.le_refl _, .inl rfl, by simp⟩⟩
    ·simp only [AC.len, List.length_singleton, Nat.mul_one, AC.avs] at g1 g2
     simp only [RowOk, AC.len, List.length_singleton, Nat.mul_one, AC.avs]
     refine ⟨fun e => (g3 e).2, by omega, ?_⟩
     rcases h4 with h4 | h4
     ·subst h4
      rw [hll, hl, List.map_take, List.map_drop, ← g2, List.drop_take, List.take_take, List.drop_drop]
      congr 1
      omega
     ·have : l.length = 0 := by omega
      have : l = [] := List.eq_nil_of_length_eq_zero this
      subst this; simp
 let c0 : Px := { c with G := s.get, p := 0, lo := 0 }
 have hx0 : ∀ x q, H.get ⟨1, 1, [(0, Ob.arr [.int k] .rd (.ints l))]⟩ x = some q → x = 0 ∧ q = .arr [.int k] .rd (.ints l) := by
  intro x q e
  unfold H.get at e
  simp only [look_cons] at e
  split at e
  ·rename_i e'; cases e; exact ⟨e'.symm, rfl⟩
  ·cases e
 have R0 : R c0 (fun _ => p) ⟨1, 1, [(0, .arr [.int k] .rd (.ints l))]⟩ s := by
  refine ⟨r.ok, ?_, ?_, ?_, ?_, fun _ _ e => e, r.kin, ?_, r.tc, Nat.zero_le _, Nat.zero_le _, fun _ _ _ _ _ _ => Nat.zero_le _, fun x B b _ e => hp3 B b e, r.snap⟩
  ·intro x q e
   obtain ⟨rfl, rfl⟩ := hx0 x q e
   exact hp2
  ·intro x q e
   obtain ⟨rfl, rfl⟩ := hx0 x q e
   exact Nat.zero_lt_one
  ·intro x y q q' B B' b b' _ e _ hf
   obtain ⟨rfl, rfl⟩ := hx0 x q e
   exact absurd (show 1 ≤ 0 from hf) (by decide)
  ·intro x q B b b' e hf
   obtain ⟨rfl, rfl⟩ := hx0 x q e
   exact absurd (show 1 ≤ 0 from hf) (by decide)
  ·intro D hD
   obtain ⟨h1, h2, h3, h4⟩ := r.th D hD
   refine ⟨h1, h2, h3, fun x q B b e hf => ?_⟩
   obtain ⟨rfl, rfl⟩ := hx0 x q e
   exact absurd (show 1 ≤ 0 from hf) (by decide)
 obtain ⟨N, a2, s', v, h', ν', ⟨os, q1, rfl⟩, ⟨q3, q3'⟩, q4, q5, q6⟩ := hc.run c0 (fun _ => p) s (a :: as') R0 (Cvs.cons hp1 (namelesss_cv hr has'))
 have old : ∀ b o, s.get b = some o → (os.getD s).get b = some o := fun b o e => q4.froz b o e
 refine ⟨N, a2, os.getD s, v, h, ν, ⟨os, q1, rfl⟩, hK v q3 q3', ?_, nameless_cv q3' q5, ⟨fun _ _ => rfl, Nat.le_refl _, rfl, q6.n, fun x B b h1 h2 => by omega⟩⟩
 refine r.swap r.p_le (Nat.le_trans r.lo_le q6.n) q6.n r.new q4.ok ?_ (fun b o e => ⟨old b o (r.froz b o e), r.froz b o e⟩) (fun _ _ e => e) q4.kin ?_ ?_ ?_
 ·intro x o B b hx hl hB
  obtain ⟨q, hq⟩ := (r.obj x o hx).here hl hB
  rw [hq]; exact old B q hq
 ·intro D hD
  obtain ⟨h1, h2, h3, h4⟩ := q4.th D hD
  exact ⟨hD, h1, h2, h3⟩
 ·intro D hD
  exact q4.tc D hD
 ·exact q4.snap
def FtR (l : List Int) (n : Nat) (v : V) : Prop := (∃ a b d, v = .tup [QV a b d, .bool true] ∧ QF (l.take n) a b d) ∨ (v = .tup [QV 0 0 0, .bool false] ∧ ¬ Fx (l.take n))
abbrev HF (l : List Int) : List (Nat × Ob) := [(0, .arr [.int .i64] .rd (.ints l)), (1, .cells [.slc 0 1 0 l.length])]
theorem fits1_ok (l : List Int) (n : Nat) (hC : AllC l) (h1 : 1 ≤ n) (hn : n ≤ l.length) (hl : l.length ≤ 4000) : SemF Try.prog 69 [.int .i64 n, .ptr 1 0] ⟨2, 2, HF l⟩ (fun v _ => FtR l n v ∧ nameless v = true) := by
 refine enter tt_ok Try.func69 (nt := 18) (cd := body Try.f69) rfl rfl rfl rfl ?_
 have eN : ((n : Int) - 0).toNat = n := by omega
 intro _; refine ⟨⟨by omega, by omega, by omega, .inr rfl⟩, ?_⟩
 intro _
 refine call_pure [(0, some 0)] (Fit_pre l n hn (by omega)) rfl rfl rfl ?_ ?_ ?_
 ·and_intros<;>try first|exact trivial|exact rfl
 ·and_intros<;>try first|exact trivial|exact rfl
 intro v hv _
 rcases fit_cases (allC_take hC hn) (by rw [tk_len hn]; exact h1) (by rw [tk_len hn]; omega) hv with ⟨a, b, d, rfl, hq⟩ | ⟨rfl, hq⟩
 ·intro _
  exact ⟨.inl ⟨a, b, d, rfl, hq⟩, rfl⟩
 ·intro _
  exact ⟨.inr ⟨rfl, hq⟩, rfl⟩
theorem fx_one {l : List Int} (hC : AllC l) (h1 : 1 ≤ l.length) : Fx (l.take 1) := by
 have hc := hC 0 h1
 refine ⟨0, raw l 0, 1, ⟨⟨by omega, by omega⟩, ⟨by decide, by decide⟩, hc⟩, fun i hi => ?_⟩
 rw [tk_len h1] at hi
 have : i = 0 := by omega
 subst this
 rw [raw_take (by omega)]
 show fl (0 * ((0 : Nat) : Int) + raw l 0) 1 = raw l 0
 have := fl_spec (0 * ((0 : Nat) : Int) + raw l 0) 1 (by omega)
 omega
abbrev Sr (l : List Int) := { x : (Nat × Nat) × Int × Int × Int // (1 ≤ x.1.1 ∧ x.1.1 < x.1.2 ∧ x.1.2 ≤ l.length + 1) ∧ QF (l.take x.1.1) x.2.1 x.2.2.1 x.2.2.2 ∧ (x.1.2 ≤ l.length → ¬ Fx (l.take x.1.2)) }
abbrev Db (l : List Int) := { x : (Nat × Nat) × Int × Int × Int // (1 ≤ x.1.1 ∧ x.1.1 < x.1.2 ∧ x.1.1 ≤ l.length ∧ (x.1.2 ≤ l.length ∨ x.1.2 = l.length + 1)) ∧ QF (l.take x.1.1) x.2.1 x.2.2.1 x.2.2.2 }
set_option maxHeartbeats 4000000 in
theorem longest_ok (l : List Int) (hC : AllC l) (h1 : 1 ≤ l.length) (hl : l.length ≤ 4000) : SemF Try.prog 62 [.slc 0 1 0 l.length] ⟨1, 1, DV l⟩ (fun v _ => (∃ (n : Nat) (a b d : Int), v = .tup [.int .i64 n, QV a b d] ∧ Lg l n a b d) ∧ nameless v = true) := by
 refine enter tt_ok Try.func62 (nt := 69) (cd := body Try.f62) rfl rfl rfl rfl ?_
 have eW : IntKind.i64.wrap ((l.length : Int) + 1) = ((l.length + 1 : Nat) : Int) := wrap_nat _ (by omega)
 intro _
 refine call_pure [(0, some 0), (1, some 1)] (fits1_ok l 1 hC (by omega) h1 hl) rfl rfl rfl ?_ ?_ ?_
 ·and_intros<;>try first|exact trivial|exact rfl
 ·and_intros<;>try first|exact trivial|exact rfl
 intro v hv _
 rcases hv with ⟨a, b, d, rfl, hq⟩ | ⟨rfl, hq⟩
 rotate_left
 ·exact absurd (fx_one hC h1) hq
 intro _; refine ⟨by kernel_rfl, ?_⟩
 intro _
 refine loop2 tt_ok [7, 9] [3] 4 (fun x : Db l => [(7, .int .i64 (x.1.1.1 : Nat)), (9, .int .i64 (x.1.1.2 : Nat))]) (fun x => [(3, .cells [.int .i64 x.1.2.1, .int .i64 x.1.2.2.1, .int .i64 x.1.2.2.2])]) (fun x => l.length + 2 - x.1.1.2) ⟨((1, 2), a, b, d), ⟨Nat.le_refl 1, show 1 < 2 by decide, h1, show 2 ≤ l.length ∨ 2 = l.length + 1 by omega⟩, hq⟩ ?_
 intro _
 refine ⟨⟨th [] 4, rfl, rfl, rfl, rfl, rfl, rfl, ?_, ?_⟩, ?_⟩
 ·and_intros<;>try first|exact trivial|exact rfl
 ·and_intros<;>try first|exact trivial|exact rfl
 intro ⟨((low, n), a, b, d), ⟨hlo, hln, hll, hnn⟩, hq⟩
 have hlo : 1 ≤ low := hlo
 have hln : low < n := hln
 have hll : low ≤ l.length := hll
 have hnn : n ≤ l.length ∨ n = l.length + 1 := hnn
 have hq : QF (l.take low) a b d := hq
 intro _; refine ⟨fun g => ?_, fun g => ?_⟩
 rotate_left
 ·have g := of_decide_eq_false (show decide ((n : Int) < IntKind.i64.wrap ((l.length : Int) + 1)) = false from g)
  rw [eW] at g
  have hn1 : n = l.length + 1 := by omega
  intro _
  refine loop2 tt_ok [7, 8] [3] 4 (fun x : Sr l => [(7, .int .i64 (x.1.1.1 : Nat)), (8, .int .i64 (x.1.1.2 : Nat))]) (fun x => [(3, .cells [.int .i64 x.1.2.1, .int .i64 x.1.2.2.1, .int .i64 x.1.2.2.2])]) (fun x => x.1.1.2 - x.1.1.1) ⟨((low, l.length + 1), a, b, d), ⟨show 1 ≤ low from hlo, show low < l.length + 1 by omega, Nat.le_refl _⟩, hq, fun q => by have q : l.length + 1 ≤ l.length := q; omega⟩ ?_
  intro _
  refine ⟨⟨th [] 4, rfl, rfl, rfl, rfl, rfl, rfl, ?_, ?_⟩, ?_⟩
  ·and_intros<;>try first|exact trivial|exact rfl
   all_goals exact eW.symm
  ·and_intros<;>try first|exact trivial|exact rfl
  intro ⟨((lo, hi), a, b, d), ⟨u1, u2, u3⟩, hq, hno⟩
  have u1 : 1 ≤ lo := u1
  have u2 : lo < hi := u2
  have u3 : hi ≤ l.length + 1 := u3
  have hq : QF (l.take lo) a b d := hq
  have hno : hi ≤ l.length → ¬ Fx (l.take hi) := hno
  have eL : IntKind.i64.wrap ((lo : Int) + 1) = ((lo + 1 : Nat) : Int) := wrap_nat _ (by omega)
  intro _; refine ⟨fun g => ?_, fun g => ?_⟩
  rotate_left
  ·have g := of_decide_eq_false (show decide (IntKind.i64.wrap ((lo : Int) + 1) < (hi : Int)) = false from g)
   rw [eL] at g
   have e : hi = lo + 1 := by omega
   subst e
   intro _; refine ⟨by kernel_rfl, ?_⟩
   intro _
   exact ⟨⟨lo, a, b, d, rfl, ⟨by omega, by omega⟩, hq, fun q => hno (by omega)⟩, rfl⟩
  have g := of_decide_eq_true (show decide (IntKind.i64.wrap ((lo : Int) + 1) < (hi : Int)) = true from g)
  rw [eL] at g
  obtain ⟨k, hk⟩ : ∃ k, k = (lo + hi) / 2 := ⟨_, rfl⟩
  have eK : IntKind.i64.wrap ((IntKind.i64.wrap ((lo : Int) + (hi : Int))).tdiv 2) = (k : Int) := by
   rw [wrapS ((lo : Int) + (hi : Int)) ⟨by omega, by omega⟩, Int.tdiv_eq_ediv_of_nonneg (by omega), wrapS _ ⟨by omega, by omega⟩]; omega
  intro _; refine ⟨by decide, ?_⟩
  intro _
  refine call_pure [(0, some 0), (1, some 1)] (fits1_ok l k hC (by omega) (by omega) hl) rfl rfl rfl ?_ ?_ ?_
  ·and_intros<;>try first|exact trivial|exact rfl
  ·and_intros<;>try first|exact trivial|exact rfl
   exact eK.symm
  intro v hv _
  rcases hv with ⟨a', b', d', rfl, hq'⟩ | ⟨rfl, hq'⟩
  ·refine ⟨⟨((k, hi), a', b', d'), ⟨show 1 ≤ k by omega, show k < hi by omega, u3⟩, hq', hno⟩, by show hi - k < hi - lo; omega, th [] 4, rfl, rfl, rfl, rfl, rfl, rfl, ?_, ?_⟩
   ·and_intros<;>try first|exact trivial|exact rfl
    exact eK.symm
   ·and_intros<;>try first|exact trivial|exact rfl
  ·refine ⟨⟨((lo, k), a, b, d), ⟨u1, show lo < k by omega, show k ≤ l.length + 1 by omega⟩, hq, fun _ => hq'⟩, by show k - lo < hi - lo; omega, th [] 4, rfl, rfl, rfl, rfl, rfl, rfl, ?_, ?_⟩
   ·and_intros<;>try first|exact trivial|exact rfl
    exact eK.symm
   ·and_intros<;>try first|exact trivial|exact rfl
 have g := of_decide_eq_true (show decide ((n : Int) < IntKind.i64.wrap ((l.length : Int) + 1)) = true from g)
 rw [eW] at g
 have hn : n ≤ l.length := by omega
 intro _
 refine call_pure [(0, some 0), (1, some 1)] (fits1_ok l n hC (by omega) hn hl) rfl rfl rfl ?_ ?_ ?_
 ·and_intros<;>try first|exact trivial|exact rfl
 ·and_intros<;>try first|exact trivial|exact rfl
 intro v hv _
 rcases hv with ⟨a', b', d', rfl, hq'⟩ | ⟨rfl, hq'⟩
 rotate_left
 ·intro _
  refine loop2 tt_ok [7, 8] [3] 5 (fun x : Sr l => [(7, .int .i64 (x.1.1.1 : Nat)), (8, .int .i64 (x.1.1.2 : Nat))]) (fun x => [(3, .cells [.int .i64 x.1.2.1, .int .i64 x.1.2.2.1, .int .i64 x.1.2.2.2])]) (fun x => x.1.1.2 - x.1.1.1) ⟨((low, n), a, b, d), ⟨show 1 ≤ low from hlo, show low < n from hln, show n ≤ l.length + 1 by omega⟩, hq, fun _ => hq'⟩ ?_
  intro _
  refine ⟨⟨th [] 5, rfl, rfl, rfl, rfl, rfl, rfl, ?_, ?_⟩, ?_⟩
  ·and_intros<;>try first|exact trivial|exact rfl
   all_goals exact eW.symm
  ·and_intros<;>try first|exact trivial|exact rfl
  intro ⟨((lo, hi), a, b, d), ⟨u1, u2, u3⟩, hq, hno⟩
  have u1 : 1 ≤ lo := u1
  have u2 : lo < hi := u2
  have u3 : hi ≤ l.length + 1 := u3
  have hq : QF (l.take lo) a b d := hq
  have hno : hi ≤ l.length → ¬ Fx (l.take hi) := hno
  have eL : IntKind.i64.wrap ((lo : Int) + 1) = ((lo + 1 : Nat) : Int) := wrap_nat _ (by omega)
  intro _; refine ⟨fun g => ?_, fun g => ?_⟩
  rotate_left
  ·have g := of_decide_eq_false (show decide (IntKind.i64.wrap ((lo : Int) + 1) < (hi : Int)) = false from g)
   rw [eL] at g
   have e : hi = lo + 1 := by omega
   subst e
   intro _; refine ⟨by kernel_rfl, ?_⟩
   intro _
   exact ⟨⟨lo, a, b, d, rfl, ⟨by omega, by omega⟩, hq, fun q => hno (by omega)⟩, rfl⟩
  have g := of_decide_eq_true (show decide (IntKind.i64.wrap ((lo : Int) + 1) < (hi : Int)) = true from g)
  rw [eL] at g
  obtain ⟨k, hk⟩ : ∃ k, k = (lo + hi) / 2 := ⟨_, rfl⟩
  have eK : IntKind.i64.wrap ((IntKind.i64.wrap ((lo : Int) + (hi : Int))).tdiv 2) = (k : Int) := by
   rw [wrapS ((lo : Int) + (hi : Int)) ⟨by omega, by omega⟩, Int.tdiv_eq_ediv_of_nonneg (by omega), wrapS _ ⟨by omega, by omega⟩]; omega
  intro _; refine ⟨by decide, ?_⟩
  intro _
  refine call_pure [(0, some 0), (1, some 1)] (fits1_ok l k hC (by omega) (by omega) hl) rfl rfl rfl ?_ ?_ ?_
  ·and_intros<;>try first|exact trivial|exact rfl
  ·and_intros<;>try first|exact trivial|exact rfl
   exact eK.symm
  intro v hv _
  rcases hv with ⟨a', b', d', rfl, hq'⟩ | ⟨rfl, hq'⟩
  ·refine ⟨⟨((k, hi), a', b', d'), ⟨show 1 ≤ k by omega, show k < hi by omega, u3⟩, hq', hno⟩, by show hi - k < hi - lo; omega, th [] 5, rfl, rfl, rfl, rfl, rfl, rfl, ?_, ?_⟩
   ·and_intros<;>try first|exact trivial|exact rfl
    exact eK.symm
   ·and_intros<;>try first|exact trivial|exact rfl
  ·refine ⟨⟨((lo, k), a, b, d), ⟨u1, show lo < k by omega, show k ≤ l.length + 1 by omega⟩, hq, fun _ => hq'⟩, by show k - lo < hi - lo; omega, th [] 5, rfl, rfl, rfl, rfl, rfl, rfl, ?_, ?_⟩
   ·and_intros<;>try first|exact trivial|exact rfl
    exact eK.symm
   ·and_intros<;>try first|exact trivial|exact rfl
 intro _; refine ⟨fun g => ?_, fun g => ?_⟩
 ·have g := beq_iff_eq.1 (show ((n : Int) == (l.length : Int)) = true from g)
  intro _; refine ⟨by kernel_rfl, ?_⟩
  intro _
  exact ⟨⟨n, a', b', d', rfl, ⟨by omega, by omega⟩, hq', fun q => by omega⟩, rfl⟩
 have g := beq_eq_false_iff_ne.1 (show ((n : Int) == (l.length : Int)) = false from g)
 have eM : min (IntKind.i64.wrap (2 * (n : Int))) (IntKind.i64.wrap (IntKind.i64.wrap ((l.length : Int) + 1) - 1)) = ((min (2 * n) l.length : Nat) : Int) := by
  rw [eW, wrapS (2 * (n : Int)) ⟨by omega, by omega⟩, wrapS _ ⟨by omega, by omega⟩]; omega
 refine ⟨⟨((n, min (2 * n) l.length), a', b', d'), ⟨show 1 ≤ n by omega, show n < min (2 * n) l.length by omega, hn, .inl (Nat.min_le_right _ _)⟩, hq'⟩, by show l.length + 2 - min (2 * n) l.length < l.length + 2 - n; omega, th [] 4, rfl, rfl, rfl, rfl, rfl, rfl, ?_, ?_⟩
 ·and_intros<;>try first|exact trivial|exact rfl
  exact eM.symm
 ·and_intros<;>try first|exact trivial|exact rfl
theorem longest_sub (l : List Int) (o : Nat) (hC : AllC l) (h1 : o < l.length) (hl : l.length ≤ 4000) : SemF Try.prog 62 [.slc 0 1 0 (l.length - o)] ⟨1, 1, DV (l.drop o)⟩ (fun v _ => (∃ (n : Nat) (a b d : Int), v = .tup [.int .i64 n, QV a b d] ∧ Lg (l.drop o) n a b d) ∧ nameless v = true) := by
 have := longest_ok (l.drop o) (allC_drop hC) (by simp; omega) (by simp; omega)
 rw [List.length_drop] at this
 exact this
theorem ccoord_test (n : Int) (h : H) (K : V → H → Prop) (hK : K (.test (decide (Cd n))) h) : SemF Try.prog 49 [.int .i64 n] h K := by
 refine SemF.test ?_
 refine enter tt_ok Try.func49 (nt := 9) (cd := body Try.f49) rfl rfl rfl rfl ?_
 intro _; refine ⟨fun g => ?_, fun g => ?_⟩
 ·have g := of_decide_eq_true (show decide (n ≥ -1000000000) = true from g)
  intro _
  refine ⟨_, .inr rfl, ?_⟩
  have : decide (Cd n) = decide (n ≤ 1000000000) := by
   by_cases e : n ≤ 1000000000
   ·rw [decide_eq_true e, decide_eq_true (show Cd n from ⟨by omega, e⟩)]
   ·rw [decide_eq_false e, decide_eq_false (fun m => e m.2)]
  rw [← this]; exact hK
 ·have g := of_decide_eq_false (show decide (n ≥ -1000000000) = false from g)
  intro _
  refine ⟨false, .inl rfl, ?_⟩
  have : decide (Cd n) = false := decide_eq_false (fun m => by have := m.1; omega)
  rw [← this]; exact hK
theorem fn_same (θ : Th) (g : Nat) : sameV θ (.fn g [] []) (.fn g [] []) := by
 unfold sameV
 show When (Nat.beq g g) _
 rw [Nat.beq_refl]
 exact ⟨trivial, trivial⟩
theorem idxg_ok {g : Nat} (hg : ∀ n : Int, SemF Try.prog g [.int .i64 n] ⟨0, 0, []⟩ (fun v _ => v = .test (!decide (Cd n)) ∧ nameless v = true)) (l : List Int) (hl : l.length ≤ 4096) : SemF Try.prog 68 [.slc 0 1 0 l.length, .fn g [] []] ⟨1, 1, DV l⟩ (fun v _ => (∃ i : Int, (0 ≤ i ↔ ¬ AllC l) ∧ v = .int .i64 i) ∧ nameless v = true) := by
 refine enter tt_ok Try.func68 (nt := 19) (cd := body Try.f68) rfl rfl rfl rfl ?_
 intro _
 refine loop2 tt_ok [8] [] 1 (fun k : { k : Nat // k ≤ l.length ∧ ∀ i, i < k → Cd (raw l i) } => [(8, .int .i64 (k.1 : Nat))]) (fun _ => []) (fun k => l.length - k.1) ⟨0, by omega, fun i h => by omega⟩ ?_
 intro _
 refine ⟨⟨th [] 1, rfl, rfl, rfl, rfl, rfl, rfl, ?_, ?_⟩, ?_⟩
 ·(repeat' first | exact trivial | exact rfl | exact fn_same _ _ | refine And.intro ?_ ?_)
 ·(repeat' first | exact trivial | exact rfl | exact fn_same _ _ | refine And.intro ?_ ?_)
 intro ⟨k, hk, hm⟩
 intro _; refine ⟨fun g => ?_, fun g => ?_⟩
 rotate_left
 ·have g := of_decide_eq_false (show decide ((k : Int) < (l.length : Int)) = false from g)
  have : k = l.length := by omega
  subst this
  intro _
  exact ⟨⟨-1, ⟨fun h => by omega, fun h => absurd hm h⟩, rfl⟩, rfl⟩
 have g := of_decide_eq_true (show decide ((k : Int) < (l.length : Int)) = true from g)
 intro _; refine ⟨show 0 ≤ (k : Int) ∧ (k : Int) < (l.length : Int) by omega, ?_⟩
 intro _; refine ⟨show 0 + (k : Int).toNat < l.length by omega, ?_⟩
 intro _
 refine call_pure [] (hg (raw l k)) rfl rfl rfl ?_ ?_ ?_
 ·and_intros<;>try first|exact trivial|exact rfl
 ·and_intros<;>try first|exact trivial|exact rfl
  show raw l k = l.getD (0 + ((k : Nat) : Int).toNat) 0
  rw [Nat.zero_add]; rfl
 intro v hv _
 subst hv
 intro _; refine ⟨fun g => ?_, fun g => ?_⟩
 ·have g2 : (!decide (Cd (raw l k))) = true := g
  rw [Bool.not_eq_true'] at g2
  have g2 := of_decide_eq_false g2
  intro _
  exact ⟨⟨k, ⟨fun _ h => g2 (h k (by omega)), fun _ => by omega⟩, rfl⟩, rfl⟩
 have g2 : (!decide (Cd (raw l k))) = false := g
 rw [Bool.not_eq_false'] at g2
 have g2 := of_decide_eq_true g2
 refine ⟨⟨k + 1, by omega, fun i hi => ?_⟩, by show l.length - (k + 1) < l.length - k; omega, th [] 1, rfl, rfl, rfl, rfl, rfl, rfl, ?_, ?_⟩
 ·by_cases e : i = k
  ·subst e; exact g2
  ·exact hm i (by omega)
 ·(repeat' first | exact trivial | exact rfl | exact fn_same _ _ | refine And.intro ?_ ?_)
  exact (wrap_nat k (by omega)).symm
 ·(repeat' first | exact trivial | exact rfl | exact fn_same _ _ | refine And.intro ?_ ?_)
theorem containsg_ok {g : Nat} (hg : ∀ n : Int, SemF Try.prog g [.int .i64 n] ⟨0, 0, []⟩ (fun v _ => v = .test (!decide (Cd n)) ∧ nameless v = true)) (l : List Int) (hl : l.length ≤ 4096) : SemF Try.prog 60 [.slc 0 1 0 l.length, .fn g [] []] ⟨1, 1, DV l⟩ (fun v _ => v = .test (!decide (AllC l)) ∧ nameless v = true) := by
 refine enter tt_ok Try.func60 (nt := 9) (cd := body Try.f60) rfl rfl rfl rfl ?_
 intro _
 refine call_pure [(0, some 0)] (idxg_ok hg l hl) rfl rfl rfl ?_ ?_ ?_
 ·(repeat' first | exact trivial | exact rfl | exact fn_same _ _ | refine And.intro ?_ ?_)
 ·(repeat' first | exact trivial | exact rfl | exact fn_same _ _ | refine And.intro ?_ ?_)
 intro v hv _
 obtain ⟨i, hi, rfl⟩ := hv
 intro _
 refine ⟨?_, rfl⟩
 show V.test (decide (i ≥ 0)) = _
 by_cases e : AllC l
 ·rw [decide_eq_true e, decide_eq_false (fun h => (hi.1 h) e)]; rfl
 ·rw [decide_eq_false e, decide_eq_true (hi.2 e)]; rfl
theorem nv28_ok (n : Int) : SemF Try.prog 61 [.int .i64 n] ⟨0, 0, []⟩ (fun v _ => v = .test (!decide (Cd n)) ∧ nameless v = true) := by
 refine enter tt_ok Try.func61 (nt := 6) (cd := body Try.f61) rfl rfl rfl rfl ?_
 intro _
 refine ccoord_test _ _ _ ?_
 intro _
 exact ⟨rfl, rfl⟩
abbrev PK : List CK := [.int .i64, .int .i64, .int .i64, .int .i64, .int .i64]
abbrev Rws := List (List Go.Vm2.D)
def pt (f u a b d : Int) : List Go.Vm2.D := [.n f, .n u, .n a, .n b, .n d]
inductive Spl : Int → List Int → Rws → Prop
 | nil (f : Int) : Spl f [] []
 | cons {f : Int} {l : List Int} {n : Nat} {a b d : Int} {ps : Rws} (h : Lg l n a b d) (k : Spl (f + n) (l.drop n) ps) : Spl f l (pt f (f + n) a b d :: ps)
theorem Spl.inv {f : Int} {l : List Int} {ps : Rws} (h : Spl f l ps) : (l = [] ∧ ps = []) ∨ ∃ n a b d qs, Lg l n a b d ∧ Spl (f + (n : Nat)) (l.drop n) qs ∧ ps = pt f (f + (n : Nat)) a b d :: qs := by
 cases h with
 | nil => exact .inl ⟨rfl, rfl⟩
 | cons h k => exact .inr ⟨_, _, _, _, _, h, k, rfl⟩
theorem Spl.uniq {f : Int} {l : List Int} {ps qs : Rws} (h : Spl f l ps) (hC : AllC l) (hl : l.length ≤ 4000) (k : Spl f l qs) : ps = qs := by
 induction h generalizing qs with
 | nil f =>
  rcases k.inv with ⟨_, rfl⟩ | ⟨n, a, b, d, qs', h, _⟩
  ·rfl
  ·have := h.1.1; have := h.1.2; simp at this; omega
 | cons h hs ih =>
  rcases k.inv with ⟨rfl, _⟩ | ⟨n, a, b, d, qs', h', k', rfl⟩
  ·have := h.1.1; have := h.1.2; simp at this; omega
  ·obtain ⟨rfl, rfl, rfl, rfl⟩ := h.uniq hC hl h'
   rw [ih (allC_drop hC) (by simp; omega) k']
theorem Spl.ne {f : Int} {l : List Int} {ps : Rws} (h : Spl f l ps) (h1 : 1 ≤ l.length) : 1 ≤ ps.length := by
 rcases h.inv with ⟨rfl, _⟩ | ⟨n, a, b, d, qs, _, _, rfl⟩
 ·simp at h1
 ·simp
theorem Spl.len {f : Int} {l : List Int} {ps : Rws} (h : Spl f l ps) : ps.length ≤ l.length := by
 induction h with
 | nil f => simp
 | cons h hs ih => have := h.1.1; have := h.1.2; simp at ih ⊢; omega
def Mok (f : Int) (l : List Int) : Prop := (1 ≤ l.length ∧ l.length ≤ 4000 ∧ AllC l) ∧ 0 ≤ f ∧ f ≤ 4001 - l.length
instance decMok (f : Int) (l : List Int) : Decidable (Mok f l) := inferInstanceAs (Decidable (_ ∧ _))
def MkR (f : Int) (l : List Int) (v : V) (h' : H) : Prop :=
 (Mok f l ∧ ∃ ps, Spl f l ps ∧ v = .tup [.grw 1 ps.length, .int .i64 0] ∧ h' = ⟨2, 1, [(1, .arr PK .grow (.recs ps))]⟩) ∨ (¬ Mok f l ∧ v = .tup [.nils, .int .i64 (if 4000 < l.length then 2 else 1)] ∧ h' = ⟨1, 1, []⟩)
set_option maxHeartbeats 4000000 in
theorem make_ok (f : Int) (l : List Int) (hl : l.length ≤ 9223372036854775807) (hf : -9223372036854775808 ≤ f ∧ f ≤ 9223372036854775807) : SemF Try.prog 50 [.int .i64 f, .slc 0 1 0 l.length] ⟨1, 1, DV l⟩ (MkR f l) := by
 refine SemF.ret ?_
 refine enter tt_ok Try.func50 (nt := 57) (cd := body Try.f50) rfl rfl rfl rfl ?_
 intro _; refine ⟨fun g => ?_, fun g => ?_⟩
 ·have g := of_decide_eq_true (show decide ((l.length : Int) > 4000) = true from g)
  intro _
  refine ⟨[], .tup [.nils, .int .i64 (if 4000 < l.length then 2 else 1)], ⟨1, 1, []⟩, rfl, rfl, rfl, rfl, ?_, ?_, .inr ⟨fun h => by have := h.1.2.1; omega, rfl, rfl⟩⟩
  ·and_intros<;>try first|exact trivial|exact rfl
   all_goals (first | exact if_neg (by omega) | exact if_pos (by omega))
  ·and_intros<;>try first|exact trivial|exact rfl
 have g1 := of_decide_eq_false (show decide ((l.length : Int) > 4000) = false from g)
 intro _; refine ⟨fun g => ?_, fun g => ?_⟩
 ·have g := beq_iff_eq.1 (show ((l.length : Int) == 0) = true from g)
  intro _
  refine ⟨[], .tup [.nils, .int .i64 (if 4000 < l.length then 2 else 1)], ⟨1, 1, []⟩, rfl, rfl, rfl, rfl, ?_, ?_, .inr ⟨fun h => by have := h.1.1; omega, rfl, rfl⟩⟩
  ·and_intros<;>try first|exact trivial|exact rfl
   all_goals (first | exact if_neg (by omega) | exact if_pos (by omega))
  ·and_intros<;>try first|exact trivial|exact rfl
 have g2 := beq_eq_false_iff_ne.1 (show ((l.length : Int) == 0) = false from g)
 intro _
 refine call_pure [(0, some 0)] (containsg_ok nv28_ok l (by omega)) rfl rfl rfl ?_ ?_ ?_
 ·and_intros<;>try first|exact trivial|exact rfl
 ·and_intros<;>try first|exact trivial|exact rfl
 intro v hv _
 subst hv
 intro _; refine ⟨fun g => ?_, fun g => ?_⟩
 ·have g : (!decide (AllC l)) = true := g
  rw [Bool.not_eq_true'] at g
  have g := of_decide_eq_false g
  intro _
  refine ⟨[], .tup [.nils, .int .i64 (if 4000 < l.length then 2 else 1)], ⟨1, 1, []⟩, rfl, rfl, rfl, rfl, ?_, ?_, .inr ⟨fun h => by exact g h.1.2.2, rfl, rfl⟩⟩
  ·and_intros<;>try first|exact trivial|exact rfl
   all_goals (first | exact if_neg (by omega) | exact if_pos (by omega))
  ·and_intros<;>try first|exact trivial|exact rfl
 have g3 : (!decide (AllC l)) = false := g
 rw [Bool.not_eq_false'] at g3
 have hC := of_decide_eq_true g3
 intro _; refine ⟨fun g => ?_, fun g => ?_⟩
 ·have g := of_decide_eq_true (show decide (f < 0) = true from g)
  intro _
  refine ⟨[], .tup [.nils, .int .i64 (if 4000 < l.length then 2 else 1)], ⟨1, 1, []⟩, rfl, rfl, rfl, rfl, ?_, ?_, .inr ⟨fun h => by have := h.2.1; omega, rfl, rfl⟩⟩
  ·and_intros<;>try first|exact trivial|exact rfl
   all_goals (first | exact if_neg (by omega) | exact if_pos (by omega))
  ·and_intros<;>try first|exact trivial|exact rfl
 have g4 := of_decide_eq_false (show decide (f < 0) = false from g)
 have e4 : IntKind.i64.wrap (4001 - (l.length : Int)) = 4001 - (l.length : Int) := wrapS _ ⟨by omega, by omega⟩
 intro _; refine ⟨fun g => ?_, fun g => ?_⟩
 ·have g := of_decide_eq_true (show decide (f > IntKind.i64.wrap (4001 - (l.length : Int))) = true from g)
  rw [e4] at g
  intro _
  refine ⟨[], .tup [.nils, .int .i64 (if 4000 < l.length then 2 else 1)], ⟨1, 1, []⟩, rfl, rfl, rfl, rfl, ?_, ?_, .inr ⟨fun h => by have := h.2.2; omega, rfl, rfl⟩⟩
  ·and_intros<;>try first|exact trivial|exact rfl
   all_goals (first | exact if_neg (by omega) | exact if_pos (by omega))
  ·and_intros<;>try first|exact trivial|exact rfl
 have g5 := of_decide_eq_false (show decide (f > IntKind.i64.wrap (4001 - (l.length : Int))) = false from g)
 rw [e4] at g5
 have hM : Mok f l := ⟨⟨by omega, by omega, hC⟩, by omega, by omega⟩
 intro _
 refine loop2 tt_ok [6, 7] [1] 2 (fun x : { x : Nat × Rws // x.1 ≤ l.length ∧ x.2.length ≤ x.1 ∧ ∀ qs, Spl (f + (x.1 : Nat)) (l.drop x.1) qs → Spl f l (x.2 ++ qs) } => [(6, .grw 1 x.1.2.length), (7, .int .i64 (x.1.1 : Nat))]) (fun x => [(1, .arr PK .grow (.recs x.1.2))]) (fun x => l.length - x.1.1) ⟨(0, []), Nat.zero_le _, Nat.le_refl _, fun qs h => by simpa using h⟩ ?_
 intro _
 refine ⟨⟨th [(1, none)] 2, rfl, rfl, rfl, rfl, rfl, rfl, ?_, ?_⟩, ?_⟩
 ·and_intros<;>try first|exact trivial|exact rfl
 ·and_intros<;>try first|exact trivial|exact rfl
 intro ⟨(at_, ps), hat, hpl, hps⟩
 have hat : at_ ≤ l.length := hat
 have hpl : ps.length ≤ at_ := hpl
 have hps : ∀ qs, Spl (f + (at_ : Nat)) (l.drop at_) qs → Spl f l (ps ++ qs) := hps
 intro _; refine ⟨fun g => ?_, fun g => ?_⟩
 rotate_left
 ·have g := of_decide_eq_false (show decide ((at_ : Int) < (l.length : Int)) = false from g)
  have e : at_ = l.length := by omega
  subst e
  have hS : Spl f l ps := by
   have := hps [] (by rw [List.drop_length]; exact Spl.nil _)
   simpa using this
  intro _
  refine ⟨[(1, some 1)], .tup [.grw 1 ps.length, .int .i64 0], ⟨2, 1, [(1, .arr PK .grow (.recs ps))]⟩, rfl, rfl, rfl, rfl, ?_, ?_, .inl ⟨hM, ps, hS, rfl, rfl⟩⟩
  ·and_intros<;>try first|exact trivial|exact rfl
  ·and_intros<;>try first|exact trivial|exact rfl
 have g := of_decide_eq_true (show decide ((at_ : Int) < (l.length : Int)) = true from g)
 have e0 : 0 + ((at_ : Nat) : Int).toNat = at_ := by omega
 have eN : (((l.length : Nat) : Int) - ((at_ : Nat) : Int)).toNat = l.length - at_ := by omega
 intro _; refine ⟨⟨by omega, show (at_ : Int) ≤ (l.length : Int) by omega, by omega, .inl (show (at_ : Int) < (l.length : Int) by omega)⟩, ?_⟩
 have hc := longest_sub l at_ hC (by omega) (by omega)
 rw [← eN] at hc
 intro _
 refine call_sub hc (by rw [e0, eN, List.take_of_length_le (by simp)]) (by rw [e0, eN]; omega) rfl rfl ?_
 intro v ⟨n, a, b, d, hv, hL⟩ _
 subst hv
 have hn1 := hL.1.1
 have hn2 : n ≤ l.length - at_ := by have := hL.1.2; simpa using this
 have ef : IntKind.i64.wrap (f + (at_ : Int)) = f + (at_ : Nat) := wrapS _ ⟨by omega, by omega⟩
 have eu : IntKind.i64.wrap (IntKind.i64.wrap (f + (at_ : Int)) + (n : Int)) = f + (at_ : Nat) + (n : Nat) := by rw [ef]; exact wrapS _ ⟨by omega, by omega⟩
 have ea : IntKind.i64.wrap ((at_ : Int) + (n : Int)) = ((at_ + n : Nat) : Int) := by rw [wrapS _ ⟨by omega, by omega⟩]; omega
 intro _; refine ⟨rfl, ?_⟩
 intro _; refine ⟨fun g3 => by simp at g3, fun _ => ?_⟩
 refine ⟨⟨rfl, show ps.length + 1 ≤ 4611686018427387904 by omega, show (ps.length + 1) * 40 ≤ 140737488355328 by omega⟩, ?_⟩
 refine ⟨⟨(at_ + n, ps ++ [pt (f + (at_ : Nat)) (f + (at_ : Nat) + (n : Nat)) a b d]), show at_ + n ≤ l.length by omega, show (ps ++ [pt (f + (at_ : Nat)) (f + (at_ : Nat) + (n : Nat)) a b d]).length ≤ at_ + n by simp; omega, fun qs hq => ?_⟩, by show l.length - (at_ + n) < l.length - at_; omega, th [(1, some 4)] 2, rfl, rfl, rfl, rfl, rfl, rfl, ?_, ?_⟩
 ·have := hps (pt (f + (at_ : Nat)) (f + (at_ : Nat) + (n : Nat)) a b d :: qs) (Spl.cons hL (by rw [List.drop_drop]; have hq : Spl (f + ((at_ + n : Nat) : Int)) (l.drop (at_ + n)) qs := hq; rw [show f + (at_ : Nat) + (n : Nat) = f + ((at_ + n : Nat) : Int) by omega]; exact hq))
  simpa using this
 ·and_intros<;>try first|exact trivial|exact rfl
  ·show (ps ++ [pt (f + (at_ : Nat)) (f + (at_ : Nat) + (n : Nat)) a b d]).length = ps.length + 1
   simp
  ·exact ea.symm
 ·and_intros<;>try first|exact trivial|exact rfl
  show ps ++ [pt (f + (at_ : Nat)) (f + (at_ : Nat) + (n : Nat)) a b d] = ps ++ [[.n (IntKind.i64.wrap (f + (at_ : Int))), .n (IntKind.i64.wrap (IntKind.i64.wrap (f + (at_ : Int)) + (n : Int))), .n a, .n b, .n d]]
  rw [eu, ef]; rfl
abbrev gx (l : Rws) (i j : Nat) : Int := ((l.getD i []).getD j (.n 0)).int
def ni (r : List Go.Vm2.D) : List Int := [(r.getD 0 (.n 0)).int, (r.getD 1 (.n 0)).int, (r.getD 2 (.n 0)).int, (r.getD 3 (.n 0)).int, (r.getD 4 (.n 0)).int]
def NI (l : Rws) : List (List Int) := l.map ni
theorem NI_eq {a b : Rws} (hl : a.length = b.length) : NI a = NI b ↔ ∀ i, i < a.length → gx a i 0 = gx b i 0 ∧ gx a i 1 = gx b i 1 ∧ gx a i 2 = gx b i 2 ∧ gx a i 3 = gx b i 3 ∧ gx a i 4 = gx b i 4 := by
 have get : ∀ (l : Rws) (i : Nat) (h : i < l.length), (NI l)[i]? = some [gx l i 0, gx l i 1, gx l i 2, gx l i 3, gx l i 4] := by
  intro l i h
  unfold NI gx ni
  rw [List.getElem?_map, List.getElem?_eq_getElem h]
  simp [List.getD_eq_getElem?_getD, List.getElem?_eq_getElem h]
 constructor
 ·intro h i hi
  have h1 := get a i hi
  have h2 := get b i (by omega)
  rw [h, h2] at h1
  simp only [Option.some.injEq, List.cons.injEq, and_true] at h1
  exact ⟨h1.1.symm, h1.2.1.symm, h1.2.2.1.symm, h1.2.2.2.1.symm, h1.2.2.2.2.symm⟩
 ·intro h
  apply List.ext_getElem?
  intro i
  by_cases hi : i < a.length
  ·obtain ⟨e0, e1, e2, e3, e4⟩ := h i hi
   rw [get a i hi, get b i (by omega), e0, e1, e2, e3, e4]
  ·rw [List.getElem?_eq_none (by simp [NI]; omega), List.getElem?_eq_none (by simp [NI]; omega)]
theorem NI_len {a b : Rws} (h : NI a = NI b) : a.length = b.length := by
 have := congrArg List.length h
 simpa [NI] using this
instance decNI (a b : Rws) : Decidable (NI a = NI b) := inferInstance
abbrev DP (l : Rws) : List (Nat × Ob) := [(0, .arr PK .rd (.recs l))]
abbrev DP2 (a b : Rws) : List (Nat × Ob) := [(0, .arr PK .rd (.recs a)), (1, .arr PK .rd (.recs b))]
theorem equal_ok (a b : Rws) (n m : Nat) (hn : n ≤ a.length) (hm : m ≤ b.length) (ha : a.length ≤ 9223372036854775807) (hb : b.length ≤ 9223372036854775807) : SemF Try.prog 51 [.slc 0 5 0 n, .slc 1 5 0 m] ⟨2, 2, DP2 a b⟩ (fun v _ => v = .test (decide (NI (a.take n) = NI (b.take m))) ∧ nameless v = true) := by
 refine SemF.test ?_
 refine enter tt_ok Try.func51 (nt := 26) (cd := body Try.f51) rfl rfl rfl rfl ?_
 have la : (a.take n).length = n := by simp; omega
 have lb : (b.take m).length = m := by simp; omega
 intro _; refine ⟨fun g => ?_, fun g => ?_⟩
 ·have g : ((n : Int) != (m : Int)) = true := g
  have g := bne_iff_ne.1 g
  intro _
  exact ⟨false, .inl rfl, by rw [decide_eq_false (fun h => by have := NI_len h; omega)], rfl⟩
 have g : ((n : Int) != (m : Int)) = false := g
 have e : n = m := by
  have := bne_eq_false_iff_eq.1 g
  omega
 subst e
 intro _
 refine loop2 tt_ok [13] [] 2 (fun k : { k : Nat // k ≤ n ∧ ∀ i, i < k → gx a i 0 = gx b i 0 ∧ gx a i 1 = gx b i 1 ∧ gx a i 2 = gx b i 2 ∧ gx a i 3 = gx b i 3 ∧ gx a i 4 = gx b i 4 } => [(13, .int .i64 (k.1 : Nat))]) (fun _ => []) (fun k => n - k.1) ⟨0, Nat.zero_le _, fun i h => by omega⟩ ?_
 intro _
 refine ⟨⟨th [] 2, rfl, rfl, rfl, rfl, rfl, rfl, ?_, ?_⟩, ?_⟩
 ·and_intros<;>try first|exact trivial|exact rfl
 ·and_intros<;>try first|exact trivial|exact rfl
 intro ⟨k, hk, hm'⟩
 have hk : k ≤ n := hk
 have gt : ∀ (l : Rws) i j, i < n → gx (l.take n) i j = gx l i j := fun l i j hi => by
  have e : (l.take n).getD i [] = l.getD i [] := by rw [List.getD_eq_getElem?_getD, List.getD_eq_getElem?_getD, List.getElem?_take_of_lt hi]
  unfold gx; rw [e]
 intro _; refine ⟨fun g => ?_, fun g => ?_⟩
 rotate_left
 ·have g := of_decide_eq_false (show decide ((k : Int) < (n : Int)) = false from g)
  have e : k = n := by omega
  subst e
  intro _
  refine ⟨true, .inl rfl, ?_, rfl⟩
  rw [decide_eq_true ((NI_eq (by rw [la, lb])).2 (fun i hi => by rw [la] at hi; rw [gt a i 0 hi, gt a i 1 hi, gt a i 2 hi, gt a i 3 hi, gt a i 4 hi, gt b i 0 hi, gt b i 1 hi, gt b i 2 hi, gt b i 3 hi, gt b i 4 hi]; exact hm' i hi))]
 have g := of_decide_eq_true (show decide ((k : Int) < (n : Int)) = true from g)
 have z : 0 + ((k : Nat) : Int).toNat = k := by omega
 intro _; refine ⟨show 0 ≤ (k : Int) ∧ (k : Int) < (n : Int) by omega, ?_⟩
 intro _; refine ⟨show 0 + (k : Int).toNat < a.length by omega, ?_⟩
 intro _; refine ⟨show 0 ≤ (k : Int) ∧ (k : Int) < (n : Int) by omega, ?_⟩
 intro _; refine ⟨show 0 + (k : Int).toNat < b.length by omega, ?_⟩
 intro _; refine ⟨by kernel_rfl, ?_⟩
 intro _; refine ⟨fun g => ?_, fun g => ?_⟩
 ·have g2 : (!(gx a (0 + ((k : Nat) : Int).toNat) 0 == gx b (0 + ((k : Nat) : Int).toNat) 0 && (gx a (0 + ((k : Nat) : Int).toNat) 1 == gx b (0 + ((k : Nat) : Int).toNat) 1 && (gx a (0 + ((k : Nat) : Int).toNat) 2 == gx b (0 + ((k : Nat) : Int).toNat) 2 && (gx a (0 + ((k : Nat) : Int).toNat) 3 == gx b (0 + ((k : Nat) : Int).toNat) 3 && gx a (0 + ((k : Nat) : Int).toNat) 4 == gx b (0 + ((k : Nat) : Int).toNat) 4))))) = true := g
  rw [z] at g2
  intro _
  refine ⟨false, .inl rfl, ?_, rfl⟩
  rw [decide_eq_false (fun h => by
   have h := (NI_eq (by rw [la, lb])).1 h k (by omega)
   rw [gt a k 0 (by omega), gt a k 1 (by omega), gt a k 2 (by omega), gt a k 3 (by omega), gt a k 4 (by omega), gt b k 0 (by omega), gt b k 1 (by omega), gt b k 2 (by omega), gt b k 3 (by omega), gt b k 4 (by omega)] at h
   simp only [h.1, h.2.1, h.2.2.1, h.2.2.2.1, h.2.2.2.2, beq_self_eq_true, Bool.and_self, Bool.not_true] at g2
   cases g2)]
 have g2 : (!(gx a (0 + ((k : Nat) : Int).toNat) 0 == gx b (0 + ((k : Nat) : Int).toNat) 0 && (gx a (0 + ((k : Nat) : Int).toNat) 1 == gx b (0 + ((k : Nat) : Int).toNat) 1 && (gx a (0 + ((k : Nat) : Int).toNat) 2 == gx b (0 + ((k : Nat) : Int).toNat) 2 && (gx a (0 + ((k : Nat) : Int).toNat) 3 == gx b (0 + ((k : Nat) : Int).toNat) 3 && gx a (0 + ((k : Nat) : Int).toNat) 4 == gx b (0 + ((k : Nat) : Int).toNat) 4))))) = false := g
 rw [z] at g2
 simp only [Bool.not_eq_false', Bool.and_eq_true, beq_iff_eq] at g2
 refine ⟨⟨k + 1, by omega, fun i hi => ?_⟩, by show n - (k + 1) < n - k; omega, th [] 2, rfl, rfl, rfl, rfl, rfl, rfl, ?_, ?_⟩
 ·by_cases e : i = k
  ·subst e; exact g2
  ·exact hm' i (by omega)
 ·and_intros<;>try first|exact trivial|exact rfl
  exact (wrap_nat k (by omega)).symm
 ·and_intros<;>try first|exact trivial|exact rfl
theorem sameInts_ok (a b : List Int) (ha : a.length ≤ 9223372036854775807) (hb : b.length ≤ 9223372036854775807) : SemF Try.prog 20 [.slc 0 1 0 a.length, .slc 1 1 0 b.length] ⟨2, 2, [(0, .arr [.int .i64] .rd (.ints a)), (1, .arr [.int .i64] .rd (.ints b))]⟩ (fun v _ => v = .test (decide (a = b)) ∧ nameless v = true) := by
 refine SemF.test ?_
 refine enter tt_ok Try.func20 (nt := 26) (cd := body Try.f20) rfl rfl rfl rfl ?_
 intro _; refine ⟨fun g => ?_, fun g => ?_⟩
 ·have g : ((a.length : Int) != (b.length : Int)) = true := g
  have g := bne_iff_ne.1 g
  intro _
  exact ⟨false, .inl rfl, by rw [decide_eq_false (fun h => by rw [h] at g; exact g rfl)], rfl⟩
 have g : ((a.length : Int) != (b.length : Int)) = false := g
 have e : a.length = b.length := by
  have := bne_eq_false_iff_eq.1 g
  omega
 intro _
 refine loop2 tt_ok [5] [] 2 (fun k : { k : Nat // k ≤ a.length ∧ ∀ i, i < k → raw a i = raw b i } => [(5, .int .i64 (k.1 : Nat))]) (fun _ => []) (fun k => a.length - k.1) ⟨0, Nat.zero_le _, fun i h => by omega⟩ ?_
 intro _
 refine ⟨⟨th [] 2, rfl, rfl, rfl, rfl, rfl, rfl, ?_, ?_⟩, ?_⟩
 ·and_intros<;>try first|exact trivial|exact rfl
 ·and_intros<;>try first|exact trivial|exact rfl
 intro ⟨k, hk, hm'⟩
 have hk : k ≤ a.length := hk
 intro _; refine ⟨fun g => ?_, fun g => ?_⟩
 rotate_left
 ·have g := of_decide_eq_false (show decide ((k : Int) < (a.length : Int)) = false from g)
  have e2 : k = a.length := by omega
  intro _
  refine ⟨true, .inl rfl, ?_, rfl⟩
  rw [decide_eq_true (show a = b from by
   apply List.ext_getElem e
   intro i h1 h2
   have := hm' i (by omega)
   unfold raw at this
   simpa [List.getD_eq_getElem?_getD, List.getElem?_eq_getElem h1, List.getElem?_eq_getElem h2] using this)]
 have g := of_decide_eq_true (show decide ((k : Int) < (a.length : Int)) = true from g)
 have z : 0 + ((k : Nat) : Int).toNat = k := by omega
 intro _; refine ⟨show 0 ≤ (k : Int) ∧ (k : Int) < (a.length : Int) by omega, ?_⟩
 intro _; refine ⟨show 0 + (k : Int).toNat < a.length by omega, ?_⟩
 intro _; refine ⟨show 0 ≤ (k : Int) ∧ (k : Int) < (b.length : Int) by omega, ?_⟩
 intro _; refine ⟨show 0 + (k : Int).toNat < b.length by omega, ?_⟩
 intro _; refine ⟨by kernel_rfl, ?_⟩
 intro _; refine ⟨fun g => ?_, fun g => ?_⟩
 ·have g2 : (raw a (0 + ((k : Nat) : Int).toNat) != raw b (0 + ((k : Nat) : Int).toNat)) = true := g
  rw [z] at g2
  have g2 := bne_iff_ne.1 g2
  intro _
  exact ⟨false, .inl rfl, by rw [decide_eq_false (fun h => g2 (by rw [h]))], rfl⟩
 have g2 : (raw a (0 + ((k : Nat) : Int).toNat) != raw b (0 + ((k : Nat) : Int).toNat)) = false := g
 rw [z] at g2
 have g2 := bne_eq_false_iff_eq.1 g2
 refine ⟨⟨k + 1, by omega, fun i hi => ?_⟩, by show a.length - (k + 1) < a.length - k; omega, th [] 2, rfl, rfl, rfl, rfl, rfl, rfl, ?_, ?_⟩
 ·by_cases e : i = k
  ·subst e; exact g2
  ·exact hm' i (by omega)
 ·and_intros<;>try first|exact trivial|exact rfl
  exact (wrap_nat k (by omega)).symm
 ·and_intros<;>try first|exact trivial|exact rfl
def atO (ps : Rws) (k : Nat) : Int := if k = 0 then gx ps 0 0 else gx ps (k - 1) 1
def Ok1 (ps : Rws) (i : Nat) : Prop := gx ps i 0 = atO ps i ∧ gx ps i 0 < gx ps i 1 ∧ gx ps i 1 ≤ 4001 ∧ Qv (gx ps i 2) (gx ps i 3) (gx ps i 4)
instance decOk1 (ps : Rws) (i : Nat) : Decidable (Ok1 ps i) := inferInstanceAs (Decidable (_ ∧ _))
def InO (ps : Rws) : Prop := (1 ≤ ps.length ∧ 0 ≤ gx ps 0 0) ∧ (∀ i, i < ps.length → Ok1 ps i) ∧ atO ps ps.length - gx ps 0 0 ≤ 4000
instance decInO (ps : Rws) : Decidable (InO ps) := inferInstanceAs (Decidable (_ ∧ _ ∧ _))
theorem at_up {ps : Rws} {n : Nat} (h0 : 0 ≤ gx ps 0 0) (h : ∀ i, i < n → Ok1 ps i) : ∀ k, k ≤ n → gx ps 0 0 + k ≤ atO ps k
 | 0, _ => by simp [atO]
 | k + 1, hk => by
  have ih := at_up h0 h k (by omega)
  have hh := h k (by omega)
  have := hh.1; have := hh.2.1
  show gx ps 0 0 + ((k + 1 : Nat) : Int) ≤ gx ps k 1
  omega
theorem at_bd {ps : Rws} {n : Nat} (h : ∀ i, i < n → Ok1 ps i) {k : Nat} (hk : k ≤ n) (h1 : 1 ≤ n) : atO ps k ≤ 4001 := by
 unfold atO
 split
 ·have := h 0 (by omega); have := this.2.1; have := (h 0 (by omega)).2.2.1; omega
 ·exact (h (k - 1) (by omega)).2.2.1
set_option maxHeartbeats 4000000 in
theorem inOrder_ok (ps : Rws) (hl : ps.length ≤ 9223372036854775807) : SemF Try.prog 47 [.slc 0 5 0 ps.length] ⟨1, 1, DP ps⟩ (fun v _ => v = .test (decide (InO ps)) ∧ nameless v = true) := by
 refine SemF.test ?_
 refine enter tt_ok Try.func47 (nt := 58) (cd := body Try.f47) rfl rfl rfl rfl ?_
 intro _; refine ⟨fun g => ?_, fun g => ?_⟩
 ·have g := beq_iff_eq.1 (show ((ps.length : Int) == 0) = true from g)
  intro _
  exact ⟨false, .inl rfl, by rw [decide_eq_false (fun h : InO ps => by have := h.1.1; omega)], rfl⟩
 have g := beq_eq_false_iff_ne.1 (show ((ps.length : Int) == 0) = false from g)
 have h1 : 1 ≤ ps.length := by omega
 intro _; refine ⟨show (0 : Int) ≤ 0 ∧ (0 : Int) < (ps.length : Int) by omega, ?_⟩
 intro _; refine ⟨show 0 + (0 : Int).toNat < ps.length by show 0 + 0 < ps.length; omega, ?_⟩
 intro _; refine ⟨fun g => ?_, fun g => ?_⟩
 ·have g := of_decide_eq_true (show decide (gx ps 0 0 < 0) = true from g)
  intro _
  exact ⟨false, .inl rfl, by rw [decide_eq_false (fun h : InO ps => by have := h.1.2; omega)], rfl⟩
 have g0 := of_decide_eq_false (show decide (gx ps 0 0 < 0) = false from g)
 have h0 : 0 ≤ gx ps 0 0 := by omega
 intro _; refine ⟨show (0 : Int) ≤ 0 ∧ (0 : Int) < (ps.length : Int) by omega, ?_⟩
 intro _; refine ⟨show 0 + (0 : Int).toNat < ps.length by show 0 + 0 < ps.length; omega, ?_⟩
 intro _
 refine loop2 tt_ok [3, 22] [] 1 (fun k : { k : Nat // k ≤ ps.length ∧ ∀ i, i < k → Ok1 ps i } => [(3, .int .i64 (atO ps k.1)), (22, .int .i64 (k.1 : Nat))]) (fun _ => []) (fun k => ps.length - k.1) ⟨0, Nat.zero_le _, fun i h => by omega⟩ ?_
 intro _
 refine ⟨⟨th [] 1, rfl, rfl, rfl, rfl, rfl, rfl, ?_, ?_⟩, ?_⟩
 ·and_intros<;>try first|exact trivial|exact rfl
 ·and_intros<;>try first|exact trivial|exact rfl
 intro ⟨k, hk, hm⟩
 have hk : k ≤ ps.length := hk
 intro _; refine ⟨fun g => ?_, fun g => ?_⟩
 rotate_left
 ·have g := of_decide_eq_false (show decide ((k : Int) < (ps.length : Int)) = false from g)
  have e : k = ps.length := by omega
  subst e
  have b1 := at_up h0 hm _ (Nat.le_refl _)
  have b2 := at_bd hm (Nat.le_refl _) h1
  have ew : IntKind.i64.wrap (atO ps ps.length - gx ps 0 0) = atO ps ps.length - gx ps 0 0 := wrapS _ ⟨by omega, by omega⟩
  intro _; refine ⟨show (0 : Int) ≤ 0 ∧ (0 : Int) < (ps.length : Int) by omega, ?_⟩
  intro _; refine ⟨show 0 + (0 : Int).toNat < ps.length by show 0 + 0 < ps.length; omega, ?_⟩
  intro _
  refine ⟨_, .inr rfl, ?_, rfl⟩
  show V.test (decide (IntKind.i64.wrap (atO ps ps.length - gx ps 0 0) ≤ 4000)) = _
  rw [ew]
  by_cases e : atO ps ps.length - gx ps 0 0 ≤ 4000
  ·rw [decide_eq_true e, decide_eq_true (show InO ps from ⟨⟨h1, h0⟩, hm, e⟩)]
  ·rw [decide_eq_false e, decide_eq_false (fun h : InO ps => e h.2.2)]
 have g := of_decide_eq_true (show decide ((k : Int) < (ps.length : Int)) = true from g)
 have z : 0 + ((k : Nat) : Int).toNat = k := by omega
 have no : ¬ Ok1 ps k → V.test false = .test (decide (InO ps)) := fun h => by rw [decide_eq_false (fun q : InO ps => h (q.2.1 k (by omega)))]
 intro _; refine ⟨show 0 ≤ (k : Int) ∧ (k : Int) < (ps.length : Int) by omega, ?_⟩
 intro _; refine ⟨show 0 + (k : Int).toNat < ps.length by omega, ?_⟩
 intro _; refine ⟨fun g => ?_, fun g => ?_⟩
 ·have g2 : (gx ps (0 + ((k : Nat) : Int).toNat) 0 != atO ps k) = true := g
  rw [z] at g2
  have g2 := bne_iff_ne.1 g2
  intro _
  exact ⟨false, .inl rfl, no (fun h => g2 h.1), rfl⟩
 have g2 : (gx ps (0 + ((k : Nat) : Int).toNat) 0 != atO ps k) = false := g
 rw [z] at g2
 have g2 := bne_eq_false_iff_eq.1 g2
 intro _; refine ⟨fun g => ?_, fun g => ?_⟩
 ·have g3 : decide (gx ps (0 + ((k : Nat) : Int).toNat) 1 ≤ gx ps (0 + ((k : Nat) : Int).toNat) 0) = true := g
  rw [z] at g3
  have g3 := of_decide_eq_true g3
  intro _
  exact ⟨false, .inl rfl, no (fun h => by have := h.2.1; omega), rfl⟩
 have g3 : decide (gx ps (0 + ((k : Nat) : Int).toNat) 1 ≤ gx ps (0 + ((k : Nat) : Int).toNat) 0) = false := g
 rw [z] at g3
 have g3 := of_decide_eq_false g3
 intro _; refine ⟨fun g => ?_, fun g => ?_⟩
 ·have g4 : decide (gx ps (0 + ((k : Nat) : Int).toNat) 1 > 4001) = true := g
  rw [z] at g4
  have g4 := of_decide_eq_true g4
  intro _
  exact ⟨false, .inl rfl, no (fun h => by have := h.2.2.1; omega), rfl⟩
 have g4 : decide (gx ps (0 + ((k : Nat) : Int).toNat) 1 > 4001) = false := g
 rw [z] at g4
 have g4 := of_decide_eq_false g4
 intro _
 refine call_pure [] (valid_ok (gx ps (0 + ((k : Nat) : Int).toNat) 2) (gx ps (0 + ((k : Nat) : Int).toNat) 3) (gx ps (0 + ((k : Nat) : Int).toNat) 4)) rfl rfl rfl ?_ ?_ ?_
 ·and_intros<;>try first|exact trivial|exact rfl
 ·and_intros<;>try first|exact trivial|exact rfl
 intro v hv _
 subst hv
 intro _; refine ⟨fun g => ?_, fun g => ?_⟩
 ·have g5 : (!decide (Qv (gx ps (0 + ((k : Nat) : Int).toNat) 2) (gx ps (0 + ((k : Nat) : Int).toNat) 3) (gx ps (0 + ((k : Nat) : Int).toNat) 4))) = true := g
  rw [z, Bool.not_eq_true'] at g5
  have g5 := of_decide_eq_false g5
  intro _
  exact ⟨false, .inl rfl, no (fun h => g5 h.2.2.2), rfl⟩
 have g5 : (!decide (Qv (gx ps (0 + ((k : Nat) : Int).toNat) 2) (gx ps (0 + ((k : Nat) : Int).toNat) 3) (gx ps (0 + ((k : Nat) : Int).toNat) 4))) = false := g
 rw [z, Bool.not_eq_false'] at g5
 have g5 := of_decide_eq_true g5
 refine ⟨⟨k + 1, by omega, fun i hi => ?_⟩, by show ps.length - (k + 1) < ps.length - k; omega, th [] 1, rfl, rfl, rfl, rfl, rfl, rfl, ?_, ?_⟩
 ·by_cases e : i = k
  ·subst e; exact ⟨g2, by omega, by omega, g5⟩
  ·exact hm i (by omega)
 ·and_intros<;>try first|exact trivial|exact rfl
  ·show gx ps k 1 = gx ps (0 + ((k : Nat) : Int).toNat) 1
   rw [z]
  ·exact (wrap_nat k (by omega)).symm
 ·and_intros<;>try first|exact trivial|exact rfl
def vk (ps : Rws) : Nat → List Int
 | 0 => []
 | k + 1 => vk ps k ++ mk (gx ps k 2) (gx ps k 3) (gx ps k 4) (gx ps k 1 - gx ps k 0).toNat
def vals (ps : Rws) : List Int := vk ps ps.length
theorem vk_len {ps : Rws} {n : Nat} (h : ∀ i, i < n → Ok1 ps i) : ∀ k, k ≤ n → ((vk ps k).length : Int) = atO ps k - gx ps 0 0
 | 0, _ => by simp [vk, atO]
 | k + 1, hk => by
  have ih := vk_len h k (by omega)
  have hh := h k (by omega)
  have := hh.1; have := hh.2.1
  simp only [vk, List.length_append, mk_len]
  show ((_ + _ : Nat) : Int) = gx ps k 1 - gx ps 0 0
  omega
theorem raw_left {a b : List Int} {i : Nat} (h : i < a.length) : raw (a ++ b) i = raw a i := by
 unfold raw; rw [List.getD_eq_getElem?_getD, List.getElem?_append_left h, ← List.getD_eq_getElem?_getD]
theorem raw_right {a b : List Int} (j : Nat) : raw (a ++ b) (a.length + j) = raw b j := by
 unfold raw; rw [List.getD_eq_getElem?_getD, List.getElem?_append_right (by omega), ← List.getD_eq_getElem?_getD]; congr 1; omega
theorem raw_vk {ps : Rws} : ∀ (n k j : Nat), k < n → j < (gx ps k 1 - gx ps k 0).toNat → (vk ps k).length + j < (vk ps n).length ∧ raw (vk ps n) ((vk ps k).length + j) = qv (gx ps k 2) (gx ps k 3) (gx ps k 4) j
 | n + 1, k, j, hk, hj => by
  simp only [vk]
  by_cases c : k < n
  ·obtain ⟨h1, h2⟩ := raw_vk n k j c hj
   exact ⟨by simp; omega, by rw [raw_left h1]; exact h2⟩
  ·have e : k = n := by omega
   subst e
   exact ⟨by rw [List.length_append, mk_len]; omega, by rw [raw_right, raw_mk _ _ hj]⟩
def Vd (ps : Rws) : Prop := InO ps ∧ AllC (vals ps) ∧ ∃ qs, Spl (gx ps 0 0) (vals ps) qs ∧ NI qs = NI ps
def RdR (ps : Rws) (v : V) (h' : H) : Prop :=
 (Vd ps ∧ v = .tup [.grw 1 (vals ps).length, .bool true] ∧ h' = ⟨2, 1, [(1, .arr [.int .i64] .grow (.ints (vals ps)))]⟩) ∨ (¬ Vd ps ∧ v = .tup [.nils, .bool false] ∧ h' = ⟨1, 1, []⟩)
set_option maxHeartbeats 8000000 in
theorem read_ok (ps : Rws) (hl : ps.length ≤ 9223372036854775807) (hb : -9223372036854775808 ≤ gx ps 0 0 ∧ gx ps 0 0 ≤ 9223372036854775807) : SemF Try.prog 39 [.slc 0 5 0 ps.length] ⟨1, 1, DP ps⟩ (RdR ps) := by
 refine SemF.ret ?_
 refine enter tt_ok Try.func39 (nt := 39) (cd := body Try.f39) rfl rfl rfl rfl ?_
 have no : ¬ Vd ps → RdR ps (.tup [.nils, .bool false]) ⟨1, 1, []⟩ := fun h => .inr ⟨h, rfl, rfl⟩
 intro _
 refine call_pure [(0, some 0)] (inOrder_ok ps hl) rfl rfl rfl ?_ ?_ ?_
 ·and_intros<;>try first|exact trivial|exact rfl
 ·and_intros<;>try first|exact trivial|exact rfl
 intro v hv _
 subst hv
 intro _; refine ⟨fun g => ?_, fun g => ?_⟩
 ·have g : (!decide (InO ps)) = true := g
  rw [Bool.not_eq_true'] at g
  have g := of_decide_eq_false g
  intro _
  refine ⟨[], .tup [.nils, .bool false], ⟨1, 1, []⟩, rfl, rfl, rfl, rfl, ?_, ?_, no (fun h => g h.1)⟩
  ·and_intros<;>try first|exact trivial|exact rfl
  ·and_intros<;>try first|exact trivial|exact rfl
 have g : (!decide (InO ps)) = false := g
 rw [Bool.not_eq_false'] at g
 have hI := of_decide_eq_true g
 have hO := hI.2.1
 have h0 := hI.1.2
 have h1 := hI.1.1
 intro _
 refine enter tt_ok Try.func48 (nt := 4) (cd := body Try.f48) rfl rfl rfl rfl ?_
 intro _
 intro _
 refine range_ok ?_
 intro _
 refine enter tt_ok Try.func58 (nt := 35) (cd := body Try.f58) rfl rfl rfl rfl ?_
 intro _
 refine loop2 tt_ok [10] [3, 7] 8 (fun k : { k : Nat // k ≤ ps.length ∧ AllC (vk ps k) } => [(10, .int .i64 (k.1 : Nat))]) (fun k => [(3, .cells [.grw 7 (vk ps k.1).length]), (7, .arr [.int .i64] .grow (.ints (vk ps k.1)))]) (fun k => ps.length - k.1) ⟨0, Nat.zero_le _, fun i h => by simp [vk] at h⟩ ?_
 intro _
 refine ⟨⟨th [(7, none)] 8, rfl, rfl, rfl, rfl, rfl, rfl, ?_, ?_⟩, ?_⟩
 ·and_intros<;>try first|exact trivial|exact rfl
 ·and_intros<;>try first|exact trivial|exact rfl
 intro ⟨k, hk, hA⟩
 have hk : k ≤ ps.length := hk
 have hA : AllC (vk ps k) := hA
 have vl := vk_len hO k hk
 have ab := at_bd hO hk h1
 intro _; refine ⟨fun g => ?_, fun g => ?_⟩
 rotate_left
 ·have g := of_decide_eq_false (show decide ((k : Int) < (ps.length : Int)) = false from g)
  have e : k = ps.length := by omega
  subst e
  intro _
  intro _; refine ⟨show (0 : Int) ≤ 0 ∧ (0 : Int) < (ps.length : Int) by omega, ?_⟩
  intro _; refine ⟨show 0 + (0 : Int).toNat < ps.length by show 0 + 0 < ps.length; omega, ?_⟩
  intro _
  refine Or.inl ?_
  have eL : ((vals ps).length : Int) = atO ps ps.length - gx ps 0 0 := vl
  have aup := at_up h0 hO ps.length (Nat.le_refl _)
  have hlast := (hI.2.2)
  have hM : Mok (gx ps 0 0) (vals ps) := ⟨⟨by omega, by omega, hA⟩, h0, by omega⟩
  intro _
  refine call_new [(0, some 7)] (make_ok (gx ps 0 0) (vals ps) (by omega) hb) rfl rfl rfl rfl ?_ ?_ ?_
  ·and_intros<;>try first|exact trivial|exact rfl
  ·and_intros<;>try first|exact trivial|exact rfl
  intro v h' hv
  rcases hv with ⟨_, own, hS, rfl, rfl⟩ | ⟨hn, _⟩
  rotate_left
  ·exact absurd hM hn
  refine ⟨[(8, some 1)], 9, [(8, .arr PK .grow (.recs own))], .tup [.grw 8 own.length, .int .i64 0], rfl, rfl, rfl, rfl, rfl, ?_, ?_, ?_⟩
  ·and_intros<;>try first|exact trivial|exact rfl
  ·and_intros<;>try first|exact trivial|exact rfl
  have ol := hS.len
  have ot : own.take own.length = own := List.take_length
  have pt_ : ps.take ps.length = ps := List.take_length
  intro _; refine ⟨by kernel_rfl, ?_⟩
  intro _; refine ⟨fun g => ?_, fun g => ?_⟩
  ·exact absurd (show ((0 : Int) != 0) = true from g) (by decide)
  intro _
  refine call_pure [(0, some 8), (1, some 0)] (equal_ok own ps own.length ps.length (Nat.le_refl _) (Nat.le_refl _) (by omega) hl) rfl rfl rfl ?_ ?_ ?_
  ·and_intros<;>try first|exact trivial|exact rfl
  ·and_intros<;>try first|exact trivial|exact rfl
  intro v hv _
  rw [ot, pt_] at hv
  subst hv
  intro _; refine ⟨fun g => ?_, fun g => ?_⟩
  ·have g : (!decide (NI own = NI ps)) = true := g
   rw [Bool.not_eq_true'] at g
   have g := of_decide_eq_false g
   intro _
   refine ⟨[], .tup [.nils, .bool false], ⟨1, 1, []⟩, rfl, rfl, rfl, rfl, ?_, ?_, no (fun h => ?_)⟩
   ·and_intros<;>try first|exact trivial|exact rfl
   ·and_intros<;>try first|exact trivial|exact rfl
   ·obtain ⟨qs, hq, he⟩ := h.2.2
    rw [hS.uniq hA (by omega) hq] at g
    exact g he
  have g : (!decide (NI own = NI ps)) = false := g
  rw [Bool.not_eq_false'] at g
  have g := of_decide_eq_true g
  intro _
  refine ⟨[(1, some 7)], .tup [.grw 1 (vals ps).length, .bool true], ⟨2, 1, [(1, .arr [.int .i64] .grow (.ints (vals ps)))]⟩, rfl, rfl, rfl, rfl, ?_, ?_, .inl ⟨⟨hI, hA, own, hS, g⟩, rfl, rfl⟩⟩
  ·and_intros<;>try first|exact trivial|exact rfl
  ·and_intros<;>try first|exact trivial|exact rfl
 have g := of_decide_eq_true (show decide ((k : Int) < (ps.length : Int)) = true from g)
 have z : 0 + ((k : Nat) : Int).toNat = k := by omega
 have ho := hO k (by omega)
 have o1 := ho.1; have o2 := ho.2.1; have o3 := ho.2.2.1
 have au := at_up h0 hO k hk
 obtain ⟨m, hm⟩ : ∃ m, m = (gx ps k 1 - gx ps k 0).toNat := ⟨_, rfl⟩
 have ew : IntKind.i64.wrap (gx ps (0 + ((k : Nat) : Int).toNat) 1 - gx ps (0 + ((k : Nat) : Int).toNat) 0) = (m : Int) := by
  rw [z, wrapS _ ⟨by omega, by omega⟩]; omega
 intro _; refine ⟨show 0 ≤ (k : Int) ∧ (k : Int) < (ps.length : Int) by omega, ?_⟩
 intro _; refine ⟨show 0 + (k : Int).toNat < ps.length by omega, ?_⟩
 intro _
 refine loop2 tt_ok [19] [3, 7] 9 (fun j : { j : Nat // j ≤ m ∧ AllC (vk ps k ++ mk (gx ps k 2) (gx ps k 3) (gx ps k 4) j) } => [(19, .int .i64 (j.1 : Nat))]) (fun j => [(3, .cells [.grw 7 (vk ps k ++ mk (gx ps k 2) (gx ps k 3) (gx ps k 4) j.1).length]), (7, .arr [.int .i64] .grow (.ints (vk ps k ++ mk (gx ps k 2) (gx ps k 3) (gx ps k 4) j.1)))]) (fun j => m - j.1) ⟨0, Nat.zero_le _, by simpa [mk] using hA⟩ ?_
 intro _
 refine ⟨⟨th [] 9, rfl, rfl, rfl, rfl, rfl, rfl, ?_, ?_⟩, ?_⟩
 ·and_intros<;>try first|exact trivial|exact rfl
 ·and_intros<;>try first|exact trivial|exact rfl
  ·show (vk ps k ++ mk (gx ps k 2) (gx ps k 3) (gx ps k 4) 0).length = (vk ps k).length
   simp [mk]
  ·show vk ps k ++ mk (gx ps k 2) (gx ps k 3) (gx ps k 4) 0 = vk ps k
   simp [mk]
 intro ⟨j, hj, hB⟩
 have hj : j ≤ m := hj
 have hB : AllC (vk ps k ++ mk (gx ps k 2) (gx ps k 3) (gx ps k 4) j) := hB
 have jl : (vk ps k ++ mk (gx ps k 2) (gx ps k 3) (gx ps k 4) j).length = (vk ps k).length + j := by rw [List.length_append, mk_len]
 intro _; refine ⟨fun g => ?_, fun g => ?_⟩
 rotate_left
 ·have g : decide ((j : Int) < IntKind.i64.wrap (gx ps (0 + ((k : Nat) : Int).toNat) 1 - gx ps (0 + ((k : Nat) : Int).toNat) 0)) = false := g
  rw [ew] at g
  have g := of_decide_eq_false g
  have e : j = m := by omega
  have ev : vk ps (k + 1) = vk ps k ++ mk (gx ps k 2) (gx ps k 3) (gx ps k 4) j := by rw [e, hm]; rfl
  refine ⟨⟨k + 1, by omega, by rw [ev]; exact hB⟩, by show ps.length - (k + 1) < ps.length - k; omega, th [] 8, rfl, rfl, rfl, rfl, rfl, rfl, ?_, ?_⟩
  ·and_intros<;>try first|exact trivial|exact rfl
   exact (wrap_nat k (by omega)).symm
  ·and_intros<;>try first|exact trivial|exact rfl
   all_goals (rw [ev]; and_intros<;>try first|exact trivial|exact rfl)
 have g : decide ((j : Int) < IntKind.i64.wrap (gx ps (0 + ((k : Nat) : Int).toNat) 1 - gx ps (0 + ((k : Nat) : Int).toNat) 0)) = true := g
 rw [ew] at g
 have g := of_decide_eq_true g
 intro _
 refine call_pure [] (at_ok (gx ps (0 + ((k : Nat) : Int).toNat) 2) (gx ps (0 + ((k : Nat) : Int).toNat) 3) (gx ps (0 + ((k : Nat) : Int).toNat) 4) j) rfl rfl rfl ?_ ?_ ?_
 ·and_intros<;>try first|exact trivial|exact rfl
 ·and_intros<;>try first|exact trivial|exact rfl
 intro v hv _
 rw [z] at hv
 unfold atv at hv
 rw [if_pos ⟨ho.2.2.2, ⟨by omega, by omega⟩⟩] at hv
 subst hv
 intro _
 refine yield_ok tt_ok ?_
 intro _
 refine ccoord_test _ _ _ ?_
 intro _; refine ⟨fun g => ?_, fun g => ?_⟩
 ·have g2 : (!decide (Cd (qv (gx ps k 2) (gx ps k 3) (gx ps k 4) j))) = true := g
  rw [Bool.not_eq_true'] at g2
  have g2 := of_decide_eq_false g2
  intro _
  intro _
  intro _
  refine ⟨[], .tup [.nils, .bool false], ⟨1, 1, []⟩, rfl, rfl, rfl, rfl, ?_, ?_, no (fun h => ?_)⟩
  ·and_intros<;>try first|exact trivial|exact rfl
  ·and_intros<;>try first|exact trivial|exact rfl
  ·obtain ⟨r1, r2⟩ := raw_vk (ps := ps) ps.length k j (by omega) (by omega)
   have hc := h.2.1 ((vk ps k).length + j) r1
   unfold vals at hc
   rw [r2] at hc
   exact g2 hc
 have g2 : (!decide (Cd (qv (gx ps k 2) (gx ps k 3) (gx ps k 4) j))) = false := g
 rw [Bool.not_eq_false'] at g2
 have g2 := of_decide_eq_true g2
 intro _; refine ⟨rfl, ?_⟩
 intro _; refine ⟨fun g3 => by simp at g3, fun _ => ?_⟩
 refine ⟨⟨rfl, show (vk ps k ++ mk (gx ps k 2) (gx ps k 3) (gx ps k 4) j).length + 1 ≤ 4611686018427387904 by rw [jl]; omega, show ((vk ps k ++ mk (gx ps k 2) (gx ps k 3) (gx ps k 4) j).length + 1) * 8 ≤ 140737488355328 by rw [jl]; omega⟩, ?_⟩
 intro _
 refine ⟨⟨j + 1, by omega, ?_⟩, by show m - (j + 1) < m - j; omega, th [(7, some 10)] 9, rfl, rfl, rfl, rfl, rfl, rfl, ?_, ?_⟩
 ·intro i hi
  have e : vk ps k ++ mk (gx ps k 2) (gx ps k 3) (gx ps k 4) (j + 1) = (vk ps k ++ mk (gx ps k 2) (gx ps k 3) (gx ps k 4) j) ++ [qv (gx ps k 2) (gx ps k 3) (gx ps k 4) j] := by simp [mk]
  rw [e] at hi ⊢
  by_cases c : i < (vk ps k ++ mk (gx ps k 2) (gx ps k 3) (gx ps k 4) j).length
  ·have := hB i c
   unfold raw at this ⊢
   rw [List.getD_eq_getElem?_getD, List.getElem?_append_left c, ← List.getD_eq_getElem?_getD]
   exact this
  ·have e2 : i = (vk ps k ++ mk (gx ps k 2) (gx ps k 3) (gx ps k 4) j).length := by simp at hi c ⊢; omega
   unfold raw
   rw [e2, List.getD_eq_getElem?_getD, List.getElem?_append_right (Nat.le_refl _), Nat.sub_self]
   exact g2
 ·and_intros<;>try first|exact trivial|exact rfl
  exact (wrap_nat j (by omega)).symm
 ·and_intros<;>try first|exact trivial|exact rfl
  ·show (vk ps k ++ mk (gx ps k 2) (gx ps k 3) (gx ps k 4) (j + 1)).length = (vk ps k ++ mk (gx ps k 2) (gx ps k 3) (gx ps k 4) j).length + 1
   simp [mk]; omega
  ·show vk ps k ++ mk (gx ps k 2) (gx ps k 3) (gx ps k 4) (j + 1) = (vk ps k ++ mk (gx ps k 2) (gx ps k 3) (gx ps k 4) j) ++ [qv (gx ps k 2) (gx ps k 3) (gx ps k 4) j]
   simp [mk]
def vr (r : List Go.Vm2.D) : List Int := mk (r.getD 2 (.n 0)).int (r.getD 3 (.n 0)).int (r.getD 4 (.n 0)).int ((r.getD 1 (.n 0)).int - (r.getD 0 (.n 0)).int).toNat
theorem vk_flat (ps : Rws) : ∀ k, k ≤ ps.length → vk ps k = (ps.take k).flatMap vr
 | 0, _ => by simp [vk]
 | k + 1, hk => by
  have e : ps.getD k [] = ps[k] := by rw [List.getD_eq_getElem?_getD, List.getElem?_eq_getElem (by omega)]; rfl
  rw [List.take_succ_eq_append_getElem (by omega), List.flatMap_append, ← vk_flat ps k (by omega)]
  simp only [vk, gx, e, List.flatMap_cons, List.flatMap_nil, List.append_nil]
  rfl
theorem vals_flat (ps : Rws) : vals ps = ps.flatMap vr := by
 unfold vals; rw [vk_flat ps _ (Nat.le_refl _), List.take_length]
theorem mk_take {a b d : Int} {l : List Int} {n : Nat} (hn : n ≤ l.length) (h : Ft a b d (l.take n)) : mk a b d n = l.take n := by
 apply List.ext_getElem (by rw [mk_len, tk_len hn])
 intro i h1 h2
 rw [mk_len] at h1
 have e1 := raw_mk (a := a) (b := b) (d := d) n i h1
 have e2 := h i (by rw [tk_len hn]; exact h1)
 have g : ∀ (q : List Int) (hq : i < q.length), raw q i = q[i] := fun q hq => by unfold raw; rw [List.getD_eq_getElem?_getD, List.getElem?_eq_getElem hq]; rfl
 rw [← g _ (by rw [mk_len]; exact h1), ← g _ h2, e1, e2]
theorem vr_pt {f a b d : Int} {n : Nat} : vr (pt f (f + (n : Nat)) a b d) = mk a b d n := by
 unfold vr pt
 show mk a b d (f + (n : Nat) - f).toNat = _
 congr 1; omega
theorem Lg.ft {l : List Int} (hC : AllC l) (hl : l.length ≤ 4000) {n : Nat} {a b d : Int} (h : Lg l n a b d) : Qv a b d ∧ Ft a b d (l.take n) :=
 h.2.1.fits (allC_take hC h.1.2) (by rw [tk_len h.1.2]; exact h.1.1) (by rw [tk_len h.1.2]; have := h.1.2; omega)
theorem Spl.vs {f : Int} {l : List Int} {ps : Rws} (h : Spl f l ps) (hC : AllC l) (hl : l.length ≤ 4000) : vals ps = l := by
 rw [vals_flat]
 induction h with
 | nil f => rfl
 | cons h hs ih =>
  rw [List.flatMap_cons, vr_pt, mk_take h.1.2 (h.ft hC hl).2, ih (allC_drop hC) (by simp; omega), List.take_append_drop]
theorem gx_succ (p : List Go.Vm2.D) (ps : Rws) (i j : Nat) : gx (p :: ps) (i + 1) j = gx ps i j := rfl
theorem Spl.first {f : Int} {l : List Int} {ps : Rws} (h : Spl f l ps) (h1 : 1 ≤ l.length) : gx ps 0 0 = f := by
 rcases h.inv with ⟨rfl, _⟩ | ⟨n, a, b, d, qs, _, _, rfl⟩
 ·simp at h1
 ·rfl
theorem Spl.last {f : Int} {l : List Int} {ps : Rws} (h : Spl f l ps) (h1 : 1 ≤ l.length) : gx ps (ps.length - 1) 1 = f + l.length := by
 induction h with
 | nil f => simp at h1
 | @cons f l n a b d ps h hs ih =>
  by_cases c : n = l.length
  ·have : ps = [] := by
    rcases hs.inv with ⟨_, e⟩ | ⟨n', _, _, _, qs, h', _, _⟩
    ·exact e
    ·have := h'.1.1; have := h'.1.2; simp at this; omega
   subst this
   show f + (n : Nat) = f + l.length
   omega
  ·have hn := h.1.2
   have hd : 1 ≤ (l.drop n).length := by simp; omega
   have hp := hs.ne hd
   have e : (pt f (f + n) a b d :: ps).length - 1 = (ps.length - 1) + 1 := by simp; omega
   rw [e, gx_succ, ih hd, List.length_drop]
   omega
theorem Spl.ok {f : Int} {l : List Int} {ps : Rws} (h : Spl f l ps) (hC : AllC l) (hl : l.length ≤ 4000) (hf : f + l.length ≤ 4001) : ∀ i, i < ps.length → Ok1 ps i := by
 induction h with
 | nil f => intro i hi; simp at hi
 | @cons f l n a b d ps h hs ih =>
  have hn := h.1.1
  have hn2 := h.1.2
  have ih := ih (allC_drop hC) (by simp; omega) (by simp; omega)
  intro i hi
  cases i with
  | zero =>
   refine ⟨rfl, ?_, ?_, (h.ft hC hl).1⟩
   ·show f < f + (n : Nat); omega
   ·show f + (n : Nat) ≤ 4001; omega
  | succ i =>
   have hi' : i < ps.length := by simpa using hi
   obtain ⟨k1, k2, k3, k4⟩ := ih i hi'
   refine ⟨?_, k2, k3, k4⟩
   rw [gx_succ, k1]
   unfold atO
   by_cases c : i = 0
   ·subst c
    have hd : 1 ≤ (l.drop n).length := by
     rcases hs.inv with ⟨_, e⟩ | ⟨n', _, _, _, qs, h', _, _⟩
     ·subst e; simp at hi'
     ·have := h'.1.1; have := h'.1.2; omega
    rw [if_pos rfl, hs.first hd]
    rfl
   ·rw [if_neg c, if_neg (by omega)]
    show gx ps (i - 1) 1 = gx (pt f (f + n) a b d :: ps) (i + 1 - 1) 1
    rw [show i + 1 - 1 = (i - 1) + 1 by omega, gx_succ]
theorem Spl.vd {f : Int} {l : List Int} {ps : Rws} (h : Spl f l ps) (hM : Mok f l) : Vd ps ∧ vals ps = l ∧ gx ps 0 0 = f := by
 obtain ⟨⟨h1, hl, hC⟩, hf, hf2⟩ := hM
 have hv := h.vs hC hl
 have h0 := h.first h1
 have hp := h.ne h1
 refine ⟨⟨⟨⟨hp, by rw [h0]; exact hf⟩, h.ok hC hl (by omega), ?_⟩, by rw [hv]; exact hC, ps, by rw [h0, hv]; exact h, rfl⟩, hv, h0⟩
 have e : atO ps ps.length = gx ps (ps.length - 1) 1 := by unfold atO; rw [if_neg (by omega)]
 rw [e, h.last h1, h0]; omega
theorem Vd.len {ps : Rws} (h : Vd ps) : 1 ≤ (vals ps).length ∧ (vals ps).length ≤ 4000 ∧ Mok (gx ps 0 0) (vals ps) := by
 have hO := h.1.2.1
 have l1 : ((vals ps).length : Int) = atO ps ps.length - gx ps 0 0 := vk_len hO ps.length (Nat.le_refl _)
 have u := at_up h.1.1.2 hO ps.length (Nat.le_refl _)
 have b := at_bd hO (Nat.le_refl _) h.1.1.1
 have k := h.1.2.2
 have k0 := h.1.1.2
 have k1 := h.1.1.1
 exact ⟨by omega, by omega, ⟨by omega, by omega, h.2.1⟩, k0, by omega⟩
abbrev gb (ps : Rws) : Prop := ps.length ≤ 9223372036854775807 ∧ -9223372036854775808 ≤ gx ps 0 0 ∧ gx ps 0 0 ≤ 9223372036854775807
def VlR (ps : Rws) (v : V) (h' : H) : Prop :=
 (Vd ps ∧ v = .tup [.grw 1 (vals ps).length, .int .i64 0] ∧ h' = ⟨2, 1, [(1, .arr [.int .i64] .grow (.ints (vals ps)))]⟩) ∨ (¬ Vd ps ∧ v = .tup [.nils, .int .i64 1] ∧ h' = ⟨1, 1, []⟩)
theorem values_ok (ps : Rws) (hb : gb ps) : SemF Try.prog 22 [.slc 0 5 0 ps.length] ⟨1, 1, DP ps⟩ (VlR ps) := by
 refine SemF.ret ?_
 refine enter tt_ok Try.func22 (nt := 14) (cd := body Try.f22) rfl rfl rfl rfl ?_
 intro _
 refine call_new [(0, some 0)] (read_ok ps hb.1 hb.2) rfl rfl rfl rfl ?_ ?_ ?_
 ·and_intros<;>try first|exact trivial|exact rfl
 ·and_intros<;>try first|exact trivial|exact rfl
 intro v h' hv
 rcases hv with ⟨hV, rfl, rfl⟩ | ⟨hV, rfl, rfl⟩
 ·refine ⟨[(1, some 1)], 2, [(1, .arr [.int .i64] .grow (.ints (vals ps)))], .tup [.grw 1 (vals ps).length, .bool true], rfl, rfl, rfl, rfl, rfl, ?_, ?_, ?_⟩
  ·and_intros<;>try first|exact trivial|exact rfl
  ·and_intros<;>try first|exact trivial|exact rfl
  intro _
  refine ⟨[(1, some 1)], .tup [.grw 1 (vals ps).length, .int .i64 0], ⟨2, 1, [(1, .arr [.int .i64] .grow (.ints (vals ps)))]⟩, rfl, rfl, rfl, rfl, ?_, ?_, .inl ⟨hV, rfl, rfl⟩⟩
  ·and_intros<;>try first|exact trivial|exact rfl
  ·and_intros<;>try first|exact trivial|exact rfl
 ·refine ⟨[], 1, [], .tup [.nils, .bool false], rfl, rfl, rfl, rfl, rfl, ?_, ?_, ?_⟩
  ·and_intros<;>try first|exact trivial|exact rfl
  ·and_intros<;>try first|exact trivial|exact rfl
  intro _
  refine ⟨[], .tup [.nils, .int .i64 1], ⟨1, 1, []⟩, rfl, rfl, rfl, rfl, ?_, ?_, .inr ⟨hV, rfl, rfl⟩⟩
  ·and_intros<;>try first|exact trivial|exact rfl
  ·and_intros<;>try first|exact trivial|exact rfl
def AtR (ps : Rws) (n : Int) (v : V) : Prop :=
 (Vd ps ∧ gx ps 0 0 ≤ n ∧ n < gx ps 0 0 + (vals ps).length ∧ v = .tup [.int .i64 (raw (vals ps) (n - gx ps 0 0).toNat), .int .i64 0]) ∨ (¬ (Vd ps ∧ gx ps 0 0 ≤ n ∧ n < gx ps 0 0 + (vals ps).length) ∧ v = .tup [.int .i64 0, .int .i64 1])
theorem few_ok (ps : Rws) (hl : ps.length ≤ 9223372036854775807) : SemF Try.prog 25 [.slc 0 5 0 ps.length] ⟨1, 1, DP ps⟩ (fun v _ => (∃ b, v = .test b) ∧ nameless v = true) := by
 refine SemF.test ?_
 refine enter tt_ok Try.func25 (nt := 62) (cd := body Try.f25) rfl rfl rfl rfl ?_
 intro _
 refine loop2 tt_ok [3, 4] [] 1 (fun x : { x : Nat × Int // x.1 ≤ ps.length } => [(3, .int .i64 x.1.2), (4, .int .i64 (x.1.1 : Nat))]) (fun _ => []) (fun x => ps.length - x.1.1) ⟨(0, 0), Nat.zero_le _⟩ ?_
 intro _
 refine ⟨⟨th [] 1, rfl, rfl, rfl, rfl, rfl, rfl, ?_, ?_⟩, ?_⟩
 ·and_intros<;>try first|exact trivial|exact rfl
 ·and_intros<;>try first|exact trivial|exact rfl
 intro ⟨(k, n), hk⟩
 have hk : k ≤ ps.length := hk
 intro _; refine ⟨fun g => ?_, fun g => ?_⟩
 rotate_left
 ·intro _; refine ⟨fun g => ?_, fun g => ?_⟩
  ·intro _
   exact ⟨_, .inr rfl, ⟨_, rfl⟩, rfl⟩
  ·intro _
   exact ⟨_, .inl rfl, ⟨_, rfl⟩, rfl⟩
 have g := of_decide_eq_true (show decide ((k : Int) < (ps.length : Int)) = true from g)
 intro _; refine ⟨fun g => ?_, fun g => ?_⟩
 rotate_left
 ·intro _; refine ⟨fun g => ?_, fun g => ?_⟩
  ·intro _
   exact ⟨_, .inr rfl, ⟨_, rfl⟩, rfl⟩
  ·intro _
   exact ⟨_, .inl rfl, ⟨_, rfl⟩, rfl⟩
 intro _; refine ⟨show 0 ≤ (k : Int) ∧ (k : Int) < (ps.length : Int) by omega, ?_⟩
 intro _; refine ⟨show 0 + (k : Int).toNat < ps.length by omega, ?_⟩
 intro _; refine ⟨show 0 ≤ (k : Int) ∧ (k : Int) < (ps.length : Int) by omega, ?_⟩
 intro _; refine ⟨show 0 + (k : Int).toNat < ps.length by omega, ?_⟩
 intro _; refine ⟨fun g => ?_, fun g => ?_⟩
 rotate_left
 ·intro _; refine ⟨by kernel_rfl, ?_⟩
  refine ⟨⟨(k + 1, n), show k + 1 ≤ ps.length by omega⟩, by show ps.length - (k + 1) < ps.length - k; omega, th [] 1, rfl, rfl, rfl, rfl, rfl, rfl, ?_, ?_⟩
  ·and_intros<;>try first|exact trivial|exact rfl
   exact (wrap_nat k (by omega)).symm
  ·and_intros<;>try first|exact trivial|exact rfl
 intro _; refine ⟨show 0 ≤ (k : Int) ∧ (k : Int) < (ps.length : Int) by omega, ?_⟩
 intro _; refine ⟨show 0 + (k : Int).toNat < ps.length by omega, ?_⟩
 intro _; refine ⟨fun g => ?_, fun g => ?_⟩
 rotate_left
 ·intro _; refine ⟨by kernel_rfl, ?_⟩
  refine ⟨⟨(k + 1, n), show k + 1 ≤ ps.length by omega⟩, by show ps.length - (k + 1) < ps.length - k; omega, th [] 1, rfl, rfl, rfl, rfl, rfl, rfl, ?_, ?_⟩
  ·and_intros<;>try first|exact trivial|exact rfl
   exact (wrap_nat k (by omega)).symm
  ·and_intros<;>try first|exact trivial|exact rfl
 intro _; refine ⟨show 0 ≤ (k : Int) ∧ (k : Int) < (ps.length : Int) by omega, ?_⟩
 intro _; refine ⟨show 0 + (k : Int).toNat < ps.length by omega, ?_⟩
 intro _; refine ⟨by kernel_rfl, ?_⟩
 intro _; refine ⟨fun g => ?_, fun g => ?_⟩
 rotate_left
 ·refine ⟨⟨(k + 1, n), show k + 1 ≤ ps.length by omega⟩, by show ps.length - (k + 1) < ps.length - k; omega, th [] 1, rfl, rfl, rfl, rfl, rfl, rfl, ?_, ?_⟩
  ·and_intros<;>try first|exact trivial|exact rfl
   exact (wrap_nat k (by omega)).symm
  ·and_intros<;>try first|exact trivial|exact rfl
 intro _; refine ⟨show 0 ≤ (k : Int) ∧ (k : Int) < (ps.length : Int) by omega, ?_⟩
 intro _; refine ⟨show 0 + (k : Int).toNat < ps.length by omega, ?_⟩
 intro _; refine ⟨show 0 ≤ (k : Int) ∧ (k : Int) < (ps.length : Int) by omega, ?_⟩
 intro _; refine ⟨show 0 + (k : Int).toNat < ps.length by omega, ?_⟩
 intro _; refine ⟨by kernel_rfl, ?_⟩
 refine ⟨⟨(k + 1, IntKind.i64.wrap (IntKind.i64.wrap (n + gx ps (0 + ((k : Nat) : Int).toNat) 1) - gx ps (0 + ((k : Nat) : Int).toNat) 0)), show k + 1 ≤ ps.length by omega⟩, by show ps.length - (k + 1) < ps.length - k; omega, th [] 1, rfl, rfl, rfl, rfl, rfl, rfl, ?_, ?_⟩
 ·and_intros<;>try first|exact trivial|exact rfl
  exact (wrap_nat k (by omega)).symm
 ·and_intros<;>try first|exact trivial|exact rfl
def zk (op : Int → Int → Int) (a b : List Int) : Nat → List Int
 | 0 => a
 | k + 1 => (zk op a b k).set k (op (raw a k) (raw b k))
def JOk (a b : Rws) : Prop := Vd a ∧ Vd b ∧ gx a 0 0 = gx b 0 0 ∧ (vals a).length = (vals b).length
abbrev zz (op : Int → Int → Int) (a b : Rws) : List Int := zk op (vals a) (vals b) (vals a).length
def JnR (op : Int → Int → Int) (a b : Rws) (v : V) (h' : H) : Prop :=
 (JOk a b ∧ v = .tup [.grw 2 (vals a).length, .int .i64 0] ∧ h' = ⟨3, 2, [(2, .arr [.int .i64] .grow (.ints (zz op a b)))]⟩) ∨ (¬ JOk a b ∧ v = .tup [.nils, .int .i64 1] ∧ h' = ⟨2, 2, []⟩)
def SmR (a b : Rws) (v : V) (h' : H) : Prop :=
 (JOk a b ∧ AllC (zz (· + ·) a b) ∧ ∃ ps, Spl (gx a 0 0) (zz (· + ·) a b) ps ∧ v = .tup [.grw 2 ps.length, .int .i64 0] ∧ h' = ⟨3, 2, [(2, .arr PK .grow (.recs ps))]⟩) ∨ (JOk a b ∧ ¬ AllC (zz (· + ·) a b) ∧ v = .tup [.nils, .int .i64 3] ∧ h' = ⟨2, 2, []⟩) ∨ (¬ JOk a b ∧ v = .tup [.nils, .int .i64 1] ∧ h' = ⟨2, 2, []⟩)
def MxR (a b : Rws) (v : V) (h' : H) : Prop :=
 (JOk a b ∧ ∃ ps, Spl (gx a 0 0) (zz max a b) ps ∧ v = .tup [.grw 2 ps.length, .int .i64 0] ∧ h' = ⟨3, 2, [(2, .arr PK .grow (.recs ps))]⟩) ∨ (¬ JOk a b ∧ v = .tup [.nils, .int .i64 1] ∧ h' = ⟨2, 2, []⟩)
abbrev P1 : Rws := [pt 200 205 1 0 2]
abbrev P2 : Rws := [pt 7 9 5 0 1, pt 9 10 0 0 1]
abbrev V1 : List Int := [0, 0, 1, 1, 2]
abbrev V2 : List Int := [0, 5, 0]
theorem qf_of {l : List Int} {a b d : Int} (hC : AllC l) (h1 : 1 ≤ l.length ∧ l.length ≤ 4000) (hd : 1 ≤ d ∧ d ≤ 16) (ha : a ∈ SS l d) (hf : lw l d a l.length ≤ hw l d a l.length) (hB : ∀ e : Int, 1 ≤ e → e < d → ∀ x ∈ SS l e, ¬ lw l e x l.length ≤ hw l e x l.length) (hm : ∀ x ∈ SS l d, Kx x < Kx a → ¬ lw l d x l.length ≤ hw l d x l.length) (hb : lw l d a l.length = b) : QF l a b d := by
 unfold QF FitR
 rw [if_neg (by omega), if_neg (fun h => h.elim (fun q => by omega) (fun q => q hC))]
 exact .inl ⟨d, a, hd, ha, hf, fun e x h1 h2 h3 h4 => hB e h1 h2 x h3 h4, fun x h1 h2 h3 => hm x h1 h2 h3, by rw [hb]⟩
theorem nofx : ¬ Fx V2 := fun ⟨a, b, d, hq, hf⟩ => by
 have h0 := hf 0 (by decide)
 have h1 := hf 1 (by decide)
 have h2 := hf 2 (by decide)
 have s0 := fl_spec (a * ((0 : Nat) : Int) + b) d hq.1.1
 have s1 := fl_spec (a * ((1 : Nat) : Int) + b) d hq.1.1
 have s2 := fl_spec (a * ((2 : Nat) : Int) + b) d hq.1.1
 have e0 : raw V2 0 = 0 := rfl
 have e1 : raw V2 1 = 5 := rfl
 have e2 : raw V2 2 = 0 := rfl
 unfold qv at h0 h1 h2
 rw [h0, e0] at s0
 rw [h1, e1] at s1
 rw [h2, e2] at s2
 omega
theorem gbp {ps : Rws} {x : Int} (h : gx ps 0 0 = x) (hl : ps.length ≤ 9223372036854775807) (hx : -9223372036854775808 ≤ x ∧ x ≤ 9223372036854775807) : gb ps := ⟨hl, by rw [h]; exact hx.1, by rw [h]; exact hx.2⟩
theorem gx_wf {ps : Rws} (hw : ∀ r ∈ ps, Go.Vm2.rowWf PK r) (i j : Nat) (hi : i < ps.length) (hj : j < 5) : -9223372036854775808 ≤ gx ps i j ∧ gx ps i j ≤ 9223372036854775807 := by
 have hm : ps[i] ∈ ps := List.getElem_mem hi
 have hk : PK[j]? = some (.int .i64) := by
  match j, hj with
  | 0, _ => rfl
  | 1, _ => rfl
  | 2, _ => rfl
  | 3, _ => rfl
  | 4, _ => rfl
 have hd := (hw _ hm).2 j (.int .i64) hk
 obtain ⟨n, e, hn⟩ := hd
 have e2 : gx ps i j = n := by
  unfold gx
  rw [show ps.getD i [] = ps[i] by rw [List.getD_eq_getElem?_getD, List.getElem?_eq_getElem hi]; rfl, e]; rfl
 rw [e2]
 simp [Lit.wf, IntKind.min, IntKind.max, IntKind.signed, IntKind.bits] at hn
 exact hn
theorem gb_of {ps : Rws} (hl : ps.length ≤ 9223372036854775807) (hw : ∀ r ∈ ps, Go.Vm2.rowWf PK r) : gb ps := by
 refine ⟨hl, ?_⟩
 by_cases h : 0 < ps.length
 ·exact gx_wf hw 0 0 h (by decide)
 ·have : ps = [] := List.eq_nil_of_length_eq_zero (by omega)
  subst this
  exact ⟨by decide, by decide⟩
abbrev DO_ (ps : Rws) : List (Nat × Ob) := [(0, .arr PK .ro (.recs ps))]
abbrev up_ (v : V) : Prop := IsTrue v
end Go.Proofs.Ytbcjncoajilijaa.con
