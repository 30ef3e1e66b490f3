/-
  Part of the proofs of layer 1 (quot): the library's sort with an order, and the fit of a quotient, as contracts of the machine by names. No conditions beyond those that its theorems name.
-/
import Derived.Test.YtpodfpoaplnheaaRows
import Derived.Test.YtpodfpoaplnheaaVwOpen2
import Derived.Test.YtpodfpoaplnheaaVwRules7
import Derived.Test.YtpodfpoaplnheaaVmFast3
import Derived.WalkKit
import Derived.ProofKit
import Derived.OpenShut
import Derived.Carry
import Derived.Test.YtpodfpoaplnheaaHead
import Derived.Test.YtpodfpoaplnheaaSrtB
namespace Go.Proofs.Ytpodfpoaplnheaa.srt
open Go.ChangeShapes Go.WideShapes Go.ChangeAt Go.RowKit
open Go.Vm (Facts Val Sound)
open Go.Vm2
set_option linter.unusedVariables false
set_option linter.unusedSectionVars false

set_option maxRecDepth 100000
def Sd0 (l : List Int) : Prop := ∀ p q, p < q → q < l.length → at' l p ≤ at' l q
set_option maxHeartbeats 2000000 in
theorem sort_ok (l : List Int) (hB_l : Bd l) (hl : l.length ≤ 4096) : SemF Try.prog 42 [.grw 0 l.length, .fn 30 [] []] ⟨1, 0, DA l⟩ (fun v h' => ∃ l', (l'.Perm l ∧ Sd0 l') ∧ v = .tup [] ∧ Dat l' h') := by
  refine enter tt_ok Try.func42 (nt := 14) (cd := body Try.f42) rfl rfl rfl rfl ?_
  intro _
  refine call_pure [] (len_ok l.length hl) rfl rfl rfl ?_ ?_ ?_
  · (repeat' first | exact trivial | exact rfl | refine And.intro ?_ ?_)
  · (repeat' first | exact trivial | exact rfl | refine And.intro ?_ ?_)
    exact (wrapU (l.length : Int) ⟨by omega, by omega⟩).symm
  intro v hv _
  obtain ⟨k, k1, k2, rfl⟩ := hv
  intro _
  refine call_mut [(0, some 0)] (pdq_ok l.length l hB_l 0 l.length k (by omega) (by omega) (Nat.le_refl _) hl (fun h => by omega)) rfl rfl rfl rfl ?_ ?_ ?_
  · (repeat' first | exact trivial | exact rfl | refine And.intro ?_ ?_)
  · (repeat' first | exact trivial | exact rfl | refine And.intro ?_ ?_)
  intro v h' ⟨l', ⟨hp, hs⟩, hv, hd⟩
  subst hv
  refine ⟨_, mut1 hd, rfl, ?_⟩
  intro _
  exact ⟨l', ⟨hp.perm, fun p q h1 h2 => hs p q (Nat.zero_le _) h1 (by rw [← hp.len]; exact h2)⟩, rfl, rfl⟩
/-- a list of one number, that was not grown -/
abbrev DO (x : Int) : List (Nat × Ob) := [(0, .arr [.int .i64] .own (.ints [x]))]
set_option maxHeartbeats 2000000 in
theorem ins1_ok (x : Int) : SemF Try.prog 46 [.grw 0 1, .int .i64 0, .int .i64 1, .fn 30 [] []] ⟨1, 0, DO x⟩ (fun v h' => v = .tup [] ∧ Go.Vm2.look h'.l 0 = some (.arr [.int .i64] .own (.ints [x]))) := by
  refine enter tt_ok Try.func46 (nt := 53) (cd := body Try.f46) rfl rfl rfl rfl ?_
  intro _
  refine loop_step tt_ok ?_
  intro _; refine ⟨fun g => ?_, fun g => ?_⟩
  · have g := of_decide_eq_true (show decide (IntKind.i64.wrap (0 + 1) < (1 : Int)) = true from g)
    rw [wrapS (0 + 1) ⟨by omega, by omega⟩] at g
    omega
  · intro _
    exact ⟨rfl, rfl⟩
theorem mut1o {y : Nat} {x : Int} {h' : H} (hd : Go.Vm2.look h'.l 0 = some (.arr [.int .i64] .own (.ints [x]))) : mutNew [(0, some y)] h'.l (DO x) = some [(y, .arr [.int .i64] .own (.ints [x]))] := by
  have e0 : Go.Vm2.look [((0 : Nat), some y)] 0 = some (some y) := rfl
  simp [mutNew, Ob.own, hd, e0, plainO]
set_option maxHeartbeats 2000000 in
theorem pdq1_ok (x lim : Int) : SemF Try.prog 44 [.grw 0 1, .int .i64 0, .int .i64 1, .int .i64 lim, .fn 30 [] []] ⟨1, 0, DO x⟩ (fun v h' => v = .tup [] ∧ Go.Vm2.look h'.l 0 = some (.arr [.int .i64] .own (.ints [x]))) := by
  refine enter tt_ok Try.func44 (nt := 148) (cd := body Try.f44) rfl rfl rfl rfl ?_
  intro _
  refine loop_step tt_ok ?_
  intro _; refine ⟨fun g => ?_, fun g => ?_⟩
  · intro _
    refine call_mut [(0, some 0)] (ins1_ok x) rfl rfl rfl rfl ?_ ?_ ?_
    · (repeat' first | exact trivial | exact rfl | refine And.intro ?_ ?_)
    · (repeat' first | exact trivial | exact rfl | refine And.intro ?_ ?_)
    intro v h' ⟨hv, hd⟩
    subst hv
    refine ⟨_, mut1o hd, rfl, ?_⟩
    intro _
    exact ⟨rfl, rfl⟩
  · have g := of_decide_eq_false (show decide (IntKind.i64.wrap ((1 : Int) - 0) ≤ 12) = false from g)
    rw [wrapS (1 - 0) ⟨by omega, by omega⟩] at g
    omega
set_option maxHeartbeats 2000000 in
theorem sort1_ok (x : Int) : SemF Try.prog 42 [.grw 0 1, .fn 30 [] []] ⟨1, 0, DO x⟩ (fun v h' => v = .tup [] ∧ Go.Vm2.look h'.l 0 = some (.arr [.int .i64] .own (.ints [x]))) := by
  refine enter tt_ok Try.func42 (nt := 14) (cd := body Try.f42) rfl rfl rfl rfl ?_
  intro _
  refine call_pure [] (len_ok 1 (by omega)) rfl rfl rfl ?_ ?_ ?_
  · (repeat' first | exact trivial | exact rfl | refine And.intro ?_ ?_)
  · (repeat' first | exact trivial | exact rfl | refine And.intro ?_ ?_)
  intro v hv _
  obtain ⟨k, k1, k2, rfl⟩ := hv
  intro _
  refine call_mut [(0, some 0)] (pdq1_ok x k) rfl rfl rfl rfl ?_ ?_ ?_
  · (repeat' first | exact trivial | exact rfl | refine And.intro ?_ ?_)
  · (repeat' first | exact trivial | exact rfl | refine And.intro ?_ ?_)
  intro v h' ⟨hv, hd⟩
  subst hv
  refine ⟨_, mut1o hd, rfl, ?_⟩
  intro _
  exact ⟨rfl, rfl⟩
abbrev DV (l : List Int) : List (Nat × Ob) := [(0, .arr [.int .i64] .rd (.ints l))]
def AllC (l : List Int) : Prop := ∀ i, i < l.length → Cd (raw l i)
instance decAllC (l : List Int) : Decidable (AllC l) := inferInstanceAs (Decidable (∀ i, i < l.length → _))
def rise (l : List Int) (d : Int) : Int := d * (raw l (l.length - 1) - raw l 0)
def fromS (l : List Int) (d : Int) : Int := max (-(fl (d - 1 - rise l d) (l.length - 1))) (-1000000000)
def untilS (l : List Int) (d : Int) : Int := min (fl (rise l d + d - 1) (l.length - 1)) 1000000000
def seqI (x : Int) : Nat → List Int
  | 0 => []
  | k + 1 => seqI x k ++ [x + k]
theorem seqI_len (x : Int) : ∀ k, (seqI x k).length = k
  | 0 => rfl
  | k + 1 => by simp [seqI, seqI_len x k]
theorem mem_seqI (x : Int) : ∀ k (a : Int), a ∈ seqI x k ↔ x ≤ a ∧ a < x + k
  | 0, a => by simp [seqI]
  | k + 1, a => by simp only [seqI, List.mem_append, mem_seqI x k a, List.mem_singleton]; omega
def cntS (l : List Int) (d : Int) : Nat := (untilS l d - fromS l d + 1).toNat
def slopes (l : List Int) (d : Int) : List Int := seqI (fromS l d) (cntS l d)
theorem rise_bd {l : List Int} {d : Int} (h : AllC l) (h1 : 2 ≤ l.length) (hd : 1 ≤ d ∧ d ≤ 16) : -32000000000 ≤ rise l d ∧ rise l d ≤ 32000000000 := by
  have a := h (l.length - 1) (by omega)
  have b := h 0 (by omega)
  have a1 := a.1; have a2 := a.2; have b1 := b.1; have b2 := b.2
  unfold rise
  obtain ⟨x, hx⟩ : ∃ x, x = raw l (l.length - 1) - raw l 0 := ⟨_, rfl⟩
  rw [← hx]
  have x1 : -2000000000 ≤ x := by omega
  have x2 : x ≤ 2000000000 := by omega
  have h3 : d * x ≤ d * 2000000000 := Int.mul_le_mul_of_nonneg_left x2 (by omega)
  have h4 : d * (-2000000000) ≤ d * x := Int.mul_le_mul_of_nonneg_left x1 (by omega)
  omega
theorem cnt_bd {l : List Int} {d : Int} (h1 : 2 ≤ l.length) (hd : 1 ≤ d ∧ d ≤ 16) : cntS l d ≤ 31 := by
  have f1 := fl_spec (d - 1 - rise l d) (l.length - 1) (by omega)
  have f2 := fl_spec (rise l d + d - 1) (l.length - 1) (by omega)
  obtain ⟨W, hW⟩ : ∃ W, W = fl (d - 1 - rise l d) (l.length - 1) := ⟨_, rfl⟩
  obtain ⟨U, hU⟩ : ∃ U, U = fl (rise l d + d - 1) (l.length - 1) := ⟨_, rfl⟩
  rw [← hW] at f1
  rw [← hU] at f2
  have k : ((l.length : Int) - 1) * (U + W) ≤ 30 := by rw [Int.mul_add]; omega
  have : U + W ≤ 30 := by
    by_cases c : U + W ≤ 30
    · exact c
    · have : 1 * (U + W) ≤ ((l.length : Int) - 1) * (U + W) := Int.mul_le_mul_of_nonneg_right (by omega) (by omega)
      omega
  unfold cntS fromS untilS
  rw [← hW, ← hU]
  omega
theorem slopes_bd (l : List Int) (d : Int) : Bd (slopes l d) := fun v hv => by
  have := (mem_seqI _ _ _).1 hv
  have h1 : -1000000000 ≤ fromS l d := by unfold fromS; omega
  have h2 : untilS l d ≤ 1000000000 := by unfold untilS; omega
  unfold cntS at this
  omega
theorem slopes_ok (l : List Int) (d : Int) (h : AllC l) (h1 : 2 ≤ l.length) (hl : l.length ≤ 4000) (hd : 1 ≤ d ∧ d ≤ 16) : SemF Try.prog 41 [.slc 0 1 0 l.length, .int .i64 d] ⟨1, 1, DV l⟩ (fun v h' => v = .grw 1 (slopes l d).length ∧ h' = ⟨2, 1, [(1, .arr [.int .i64] .grow (.ints (slopes l d)))]⟩) := by
  have rb := rise_bd h h1 hd
  have eL : IntKind.i64.wrap ((l.length : Int) - 1) = (l.length : Int) - 1 := wrapS _ ⟨by omega, by omega⟩
  have va := h (l.length - 1) (by omega)
  have vb := h 0 (by omega)
  have va1 := va.1; have va2 := va.2; have vb1 := vb.1; have vb2 := vb.2
  refine SemF.ret ?_
  refine enter tt_ok Try.func41 (nt := 53) (cd := body Try.f41) rfl rfl rfl rfl ?_
  intro _; refine ⟨fun g => ?_, fun g => ?_⟩
  · have g := beq_iff_eq.1 (show (IntKind.i64.wrap ((l.length : Int) - 1) == 0) = true from g)
    omega
  have n1 : (IntKind.i64.wrap ((l.length : Int) - 1)).toNat = l.length - 1 := by rw [eL]; omega
  intro _; refine ⟨show 0 ≤ IntKind.i64.wrap ((l.length : Int) - 1) ∧ IntKind.i64.wrap ((l.length : Int) - 1) < (l.length : Int) by rw [eL]; omega, ?_⟩
  intro _; refine ⟨show 0 + (IntKind.i64.wrap ((l.length : Int) - 1)).toNat < l.length by rw [n1]; omega, ?_⟩
  intro _; refine ⟨by omega, ?_⟩
  intro _; refine ⟨show 0 + (0 : Int).toNat < l.length by show 0 < l.length; omega, ?_⟩
  intro _; refine ⟨by kernel_rfl, ?_⟩
  have eA : l.getD (0 + (IntKind.i64.wrap ((l.length : Int) - 1)).toNat) 0 = raw l (l.length - 1) := by rw [n1, Nat.zero_add]; rfl
  have eB : l.getD (0 + (0 : Int).toNat) 0 = raw l 0 := rfl
  obtain ⟨X, hX⟩ : ∃ X, X = IntKind.i64.wrap (d * IntKind.i64.wrap (l.getD (0 + (IntKind.i64.wrap ((l.length : Int) - 1)).toNat) 0 - l.getD (0 + (0 : Int).toNat) 0)) := ⟨_, rfl⟩
  have eX : X = rise l d := by
    rw [hX, eA, eB, wrapS (raw l (l.length - 1) - raw l 0) ⟨by omega, by omega⟩]
    exact wrapS _ ⟨by unfold rise at rb; omega, by unfold rise at rb; omega⟩
  have e1 : IntKind.i64.wrap (IntKind.i64.wrap (d - 1) - X) = d - 1 - rise l d := by rw [eX, wrapS (d - 1) ⟨by omega, by omega⟩, wrapS _ ⟨by omega, by omega⟩]
  have e2 : IntKind.i64.wrap (IntKind.i64.wrap (X + d) - 1) = rise l d + d - 1 := by rw [eX, wrapS (rise l d + d) ⟨by omega, by omega⟩, wrapS _ ⟨by omega, by omega⟩]
  have b1 := fl_bd (d - 1 - rise l d) (l.length - 1) (by omega) 40000000000 ⟨by omega, by omega⟩
  have b2 := fl_bd (rise l d + d - 1) (l.length - 1) (by omega) 40000000000 ⟨by omega, by omega⟩
  intro _
  refine call_pure [] (floor_ok (d - 1 - rise l d) (l.length - 1) (by omega) ⟨by omega, by omega⟩) rfl rfl rfl ?_ ?_ ?_
  · (repeat' first | exact trivial | exact rfl | refine And.intro ?_ ?_)
  · (repeat' first | exact trivial | exact rfl | refine And.intro ?_ ?_)
    rw [hX] at e1
    exact e1.symm
    exact eL.symm
  intro v hv _
  subst hv
  intro _
  refine call_pure [] (floor_ok (rise l d + d - 1) (l.length - 1) (by omega) ⟨by omega, by omega⟩) rfl rfl rfl ?_ ?_ ?_
  · (repeat' first | exact trivial | exact rfl | refine And.intro ?_ ?_)
  · (repeat' first | exact trivial | exact rfl | refine And.intro ?_ ?_)
    rw [hX] at e2
    exact e2.symm
    exact eL.symm
  intro v hv _
  subst hv
  have e3 : max (IntKind.i64.wrap (0 - fl (d - 1 - rise l d) (l.length - 1))) (-1000000000) = fromS l d := by
    unfold fromS
    rw [wrapS _ ⟨by omega, by omega⟩]; omega
  have cb := cnt_bd (l := l) (d := d) h1 hd
  have fb1 : -1000000000 ≤ fromS l d := by unfold fromS; omega
  have fb2 : fromS l d ≤ 50000000000 := by unfold fromS; omega
  intro _
  refine loop2 tt_ok [9, 10] [1] 2 (fun k : { k : Nat // k ≤ cntS l d } => [(9, .grw 1 (seqI (fromS l d) k.1).length), (10, .int .i64 (fromS l d + k.1))]) (fun k => [(1, .arr [.int .i64] .grow (.ints (seqI (fromS l d) k.1)))]) (fun k => cntS l d - k.1) ⟨0, Nat.zero_le _⟩ ?_
  intro _
  refine ⟨⟨th [(1, none)] 2, rfl, rfl, rfl, rfl, rfl, rfl, ?_, ?_⟩, ?_⟩
  · (repeat' first | exact trivial | exact rfl | refine And.intro ?_ ?_)
    show fromS l d + ((0 : Nat) : Int) = max (IntKind.i64.wrap (0 - fl (d - 1 - rise l d) (l.length - 1))) (-1000000000)
    rw [e3]; omega
  · (repeat' first | exact trivial | exact rfl | refine And.intro ?_ ?_)
  intro ⟨k, hk⟩
  have hsl := seqI_len (fromS l d) k
  intro _; refine ⟨fun g => ?_, fun g => ?_⟩
  · have g := of_decide_eq_true (show decide (fromS l d + (k : Int) ≤ min (fl (rise l d + d - 1) (l.length - 1)) 1000000000) = true from g)
    have hk2 : k < cntS l d := by unfold cntS untilS; omega
    intro _; refine ⟨rfl, ?_⟩
    intro _; refine ⟨fun g3 => by simp at g3, fun _ => ?_⟩
    refine ⟨⟨rfl, show (seqI (fromS l d) k).length + 1 ≤ 4611686018427387904 by rw [hsl]; omega, show ((seqI (fromS l d) k).length + 1) * 8 ≤ 140737488355328 by rw [hsl]; omega⟩, ?_⟩
    refine ⟨⟨k + 1, hk2⟩, by show cntS l d - (k + 1) < cntS l d - k; omega, th [(1, some 3)] 2, rfl, rfl, rfl, rfl, rfl, rfl, ?_, ?_⟩
    · (repeat' first | exact trivial | exact rfl | refine And.intro ?_ ?_)
      · show (seqI (fromS l d) (k + 1)).length = (seqI (fromS l d) k).length + 1
        rw [seqI_len, seqI_len]
      · show fromS l d + ((k + 1 : Nat) : Int) = IntKind.i64.wrap (fromS l d + (k : Int) + 1)
        rw [wrapS _ ⟨by omega, by omega⟩]; omega
    · (repeat' first | exact trivial | exact rfl | refine And.intro ?_ ?_)
  have g := of_decide_eq_false (show decide (fromS l d + (k : Int) ≤ min (fl (rise l d + d - 1) (l.length - 1)) 1000000000) = false from g)
  have hk2 : k = cntS l d := by unfold cntS untilS at *; omega
  subst hk2
  intro _
  refine ⟨[(1, some 1)], .grw 1 (slopes l d).length, ⟨2, 1, [(1, .arr [.int .i64] .grow (.ints (slopes l d)))]⟩, rfl, rfl, rfl, rfl, ?_, ?_, ⟨rfl, rfl⟩⟩
  · (repeat' first | exact trivial | exact rfl | refine And.intro ?_ ?_)
  · (repeat' first | exact trivial | exact rfl | refine And.intro ?_ ?_)
theorem slopes1_ok (l : List Int) (d : Int) (h1 : l.length = 1) : SemF Try.prog 41 [.slc 0 1 0 l.length, .int .i64 d] ⟨1, 1, DV l⟩ (fun v h' => v = .grw 1 1 ∧ h' = ⟨2, 1, [(1, .arr [.int .i64] .own (.ints [0]))]⟩) := by
  refine SemF.ret ?_
  refine enter tt_ok Try.func41 (nt := 53) (cd := body Try.f41) rfl rfl rfl rfl ?_
  intro _; refine ⟨fun g => ?_, fun g => ?_⟩
  rotate_left
  · have g : (IntKind.i64.wrap ((l.length : Int) - 1) == 0) = false := g
    rw [wrapS _ ⟨by omega, by omega⟩] at g
    have g := beq_eq_false_iff_ne.1 g
    omega
  intro _
  refine ⟨[(1, some 1)], .grw 1 1, ⟨2, 1, [(1, .arr [.int .i64] .own (.ints [0]))]⟩, rfl, rfl, rfl, rfl, ?_, ?_, ⟨rfl, rfl⟩⟩
  · (repeat' first | exact trivial | exact rfl | refine And.intro ?_ ?_)
  · (repeat' first | exact trivial | exact rfl | refine And.intro ?_ ?_)
theorem nv_ok (n : Int) : SemF Try.prog 29 [.int .i64 n] ⟨0, 0, []⟩ (fun v _ => v = .test (!decide (Cd n)) ∧ nameless v = true) := by
  refine enter tt_ok Try.func29 (nt := 6) (cd := body Try.f29) rfl rfl rfl rfl ?_
  intro _
  refine coord_test _ _ _ ?_
  intro _
  exact ⟨rfl, rfl⟩
theorem idx_ok (l : List Int) (hl : l.length ≤ 4096) : SemF Try.prog 38 [.slc 0 1 0 l.length, .fn 29 [] []] ⟨1, 1, DV l⟩ (fun v _ => (∃ i : Int, (0 ≤ i ↔ ¬ AllC l) ∧ v = .int .i64 i) ∧ nameless v = true) := by
  refine enter tt_ok Try.func38 (nt := 19) (cd := body Try.f38) rfl rfl rfl rfl ?_
  intro _
  refine loop2 tt_ok [8] [] 1 (fun k : { k : Nat // k ≤ l.length ∧ ∀ i, i < k → Cd (raw l i) } => [(8, .int .i64 (k.1 : Nat))]) (fun _ => []) (fun k => l.length - k.1) ⟨0, by omega, fun i h => by omega⟩ ?_
  intro _
  refine ⟨⟨th [] 1, rfl, rfl, rfl, rfl, rfl, rfl, ?_, ?_⟩, ?_⟩
  · (repeat' first | exact trivial | exact rfl | refine And.intro ?_ ?_)
  · (repeat' first | exact trivial | exact rfl | refine And.intro ?_ ?_)
  intro ⟨k, hk, hm⟩
  intro _; refine ⟨fun g => ?_, fun g => ?_⟩
  rotate_left
  · have g := of_decide_eq_false (show decide ((k : Int) < (l.length : Int)) = false from g)
    have : k = l.length := by omega
    subst this
    intro _
    exact ⟨⟨-1, ⟨fun h => by omega, fun h => absurd hm h⟩, rfl⟩, rfl⟩
  have g := of_decide_eq_true (show decide ((k : Int) < (l.length : Int)) = true from g)
  intro _; refine ⟨show 0 ≤ (k : Int) ∧ (k : Int) < (l.length : Int) by omega, ?_⟩
  intro _; refine ⟨show 0 + (k : Int).toNat < l.length by omega, ?_⟩
  intro _
  refine call_pure [] (nv_ok (raw l k)) rfl rfl rfl ?_ ?_ ?_
  · (repeat' first | exact trivial | exact rfl | refine And.intro ?_ ?_)
  · (repeat' first | exact trivial | exact rfl | refine And.intro ?_ ?_)
    show raw l k = l.getD (0 + ((k : Nat) : Int).toNat) 0
    rw [Nat.zero_add]; rfl
  intro v hv _
  subst hv
  intro _; refine ⟨fun g => ?_, fun g => ?_⟩
  · have g2 : (!decide (Cd (raw l k))) = true := g
    rw [Bool.not_eq_true'] at g2
    have g2 := of_decide_eq_false g2
    intro _
    exact ⟨⟨k, ⟨fun _ h => g2 (h k (by omega)), fun _ => by omega⟩, rfl⟩, rfl⟩
  have g2 : (!decide (Cd (raw l k))) = false := g
  rw [Bool.not_eq_false'] at g2
  have g2 := of_decide_eq_true g2
  refine ⟨⟨k + 1, by omega, fun i hi => ?_⟩, by show l.length - (k + 1) < l.length - k; omega, th [] 1, rfl, rfl, rfl, rfl, rfl, rfl, ?_, ?_⟩
  · by_cases e : i = k
    · subst e; exact g2
    · exact hm i (by omega)
  · (repeat' first | exact trivial | exact rfl | refine And.intro ?_ ?_)
    exact (wrap_nat k (by omega)).symm
  · (repeat' first | exact trivial | exact rfl | refine And.intro ?_ ?_)
theorem contains_ok (l : List Int) (hl : l.length ≤ 4096) : SemF Try.prog 28 [.slc 0 1 0 l.length, .fn 29 [] []] ⟨1, 1, DV l⟩ (fun v _ => v = .test (!decide (AllC l)) ∧ nameless v = true) := by
  refine enter tt_ok Try.func28 (nt := 9) (cd := body Try.f28) rfl rfl rfl rfl ?_
  intro _
  refine call_pure [(0, some 0)] (idx_ok l hl) rfl rfl rfl ?_ ?_ ?_
  · (repeat' first | exact trivial | exact rfl | refine And.intro ?_ ?_)
  · (repeat' first | exact trivial | exact rfl | refine And.intro ?_ ?_)
  intro v hv _
  obtain ⟨i, hi, rfl⟩ := hv
  intro _
  refine ⟨?_, rfl⟩
  show V.test (decide (i ≥ 0)) = _
  by_cases e : AllC l
  · rw [decide_eq_true e, decide_eq_false (fun h => (hi.1 h) e)]; rfl
  · rw [decide_eq_false e, decide_eq_true (hi.2 e)]; rfl
def lw (l : List Int) (d a : Int) : Nat → Int
  | 0 => -1000000000
  | k + 1 => max (lw l d a k) (d * raw l k - a * k)
def hw (l : List Int) (d a : Int) : Nat → Int
  | 0 => 1000000000
  | k + 1 => min (hw l d a k) (d * raw l k - a * k + d - 1)
def Fe (l : List Int) (d a : Int) : Prop := lw l d a l.length ≤ hw l d a l.length
theorem lw_mono (l : List Int) (d a : Int) : ∀ k j, k ≤ j → lw l d a k ≤ lw l d a j
  | k, 0, h => by have : k = 0 := by omega
                  subst this; exact Int.le_refl _
  | k, j + 1, h => by
    by_cases e : k = j + 1
    · subst e; exact Int.le_refl _
    · have := lw_mono l d a k j (by omega)
      simp only [lw]; omega
theorem hw_mono (l : List Int) (d a : Int) : ∀ k j, k ≤ j → hw l d a j ≤ hw l d a k
  | k, 0, h => by have : k = 0 := by omega
                  subst this; exact Int.le_refl _
  | k, j + 1, h => by
    by_cases e : k = j + 1
    · subst e; exact Int.le_refl _
    · have := hw_mono l d a k j (by omega)
      simp only [hw]; omega
theorem not_fe {l : List Int} {d a : Int} {k : Nat} (hk : k ≤ l.length) (h : lw l d a k > hw l d a k) : ¬ Fe l d a := fun q => by
  have h1 := lw_mono l d a k _ hk
  have h2 := hw_mono l d a k _ hk
  unfold Fe at q
  omega
theorem vd_bd {l : List Int} {d a : Int} (hC : AllC l) (hd : 1 ≤ d ∧ d ≤ 16) (ha : -1000000000 ≤ a ∧ a ≤ 1000000000) (hl : l.length ≤ 4000) {k : Nat} (hk : k < l.length) : (-16000000000 ≤ d * raw l k ∧ d * raw l k ≤ 16000000000) ∧ (-4000000000000 ≤ a * k ∧ a * k ≤ 4000000000000) := by
  have h := hC k hk
  have h1 := h.1; have h2 := h.2
  have a1 : d * (-1000000000) ≤ d * raw l k := Int.mul_le_mul_of_nonneg_left h1 (by omega)
  have a2 : d * raw l k ≤ d * 1000000000 := Int.mul_le_mul_of_nonneg_left h2 (by omega)
  have c1 : (-1000000000) * (k : Int) ≤ a * k := Int.mul_le_mul_of_nonneg_right ha.1 (by omega)
  have c2 : a * (k : Int) ≤ 1000000000 * k := Int.mul_le_mul_of_nonneg_right ha.2 (by omega)
  omega
theorem lw_bd {l : List Int} {d a : Int} (hC : AllC l) (hd : 1 ≤ d ∧ d ≤ 16) (ha : -1000000000 ≤ a ∧ a ≤ 1000000000) (hl : l.length ≤ 4000) : ∀ k, k ≤ l.length → -1000000000 ≤ lw l d a k ∧ lw l d a k ≤ 5000000000000 ∧ -5000000000000 ≤ hw l d a k ∧ hw l d a k ≤ 1000000000
  | 0, _ => by simp [lw, hw]
  | k + 1, h => by
    have := lw_bd hC hd ha hl k (by omega)
    have := vd_bd hC hd ha hl (k := k) (by omega)
    simp only [lw, hw]
    omega
def SS (l : List Int) (d : Int) : List Int := if l.length = 1 then [0] else slopes l d
/-- what comes before -/
def Bef (l : List Int) (d : Int) : Prop := ∀ e a, 1 ≤ e → e < d → a ∈ SS l e → ¬ Fe l e a
abbrev QV (a b d : Int) : V := .agg [.int .i64 a, .int .i64 b, .int .i64 d]
def FitR (l : List Int) (v : V) : Prop :=
  if 4000 < l.length then v = .tup [QV 0 0 0, .bool false, .int .i64 2]
  else if l.length = 0 ∨ ¬ AllC l then v = .tup [QV 0 0 0, .bool false, .int .i64 1]
  else (∃ d a, (1 ≤ d ∧ d ≤ 16) ∧ a ∈ SS l d ∧ Fe l d a ∧ Bef l d ∧ (∀ a', a' ∈ SS l d → Kx a' < Kx a → ¬ Fe l d a') ∧ v = .tup [QV a (lw l d a l.length) d, .bool true, .int .i64 0])
    ∨ (Bef l 17 ∧ v = .tup [QV 0 0 0, .bool false, .int .i64 0])
theorem Fit_ok (l : List Int) (hl : l.length ≤ 9223372036854775807) : SemF Try.prog 14 [.slc 0 1 0 l.length] ⟨1, 1, DV l⟩ (fun v _ => FitR l v ∧ nameless v = true) := by
  refine enter tt_ok Try.func14 (nt := 62) (cd := body Try.f14) rfl rfl rfl rfl ?_
  intro _; refine ⟨fun g => ?_, fun g => ?_⟩
  · have g := of_decide_eq_true (show decide ((l.length : Int) > 4000) = true from g)
    intro _
    exact ⟨by unfold FitR; rw [if_pos (by omega)], rfl⟩
  have g1 := of_decide_eq_false (show decide ((l.length : Int) > 4000) = false from g)
  have no : l.length = 0 ∨ ¬ AllC l → FitR l (.tup [QV 0 0 0, .bool false, .int .i64 1]) ∧ nameless (.tup [QV 0 0 0, .bool false, .int .i64 1]) = true := fun h => ⟨by unfold FitR; rw [if_neg (by omega), if_pos h], rfl⟩
  intro _; refine ⟨fun g => ?_, fun g => ?_⟩
  · have g := beq_iff_eq.1 (show ((l.length : Int) == 0) = true from g)
    intro _
    exact no (.inl (by omega))
  have g := beq_eq_false_iff_ne.1 (show ((l.length : Int) == 0) = false from g)
  intro _
  refine call_pure [(0, some 0)] (contains_ok l (by omega)) rfl rfl rfl ?_ ?_ ?_
  · (repeat' first | exact trivial | exact rfl | refine And.intro ?_ ?_)
  · (repeat' first | exact trivial | exact rfl | refine And.intro ?_ ?_)
  intro v hv _
  subst hv
  intro _; refine ⟨fun g => ?_, fun g => ?_⟩
  · have g : (!decide (AllC l)) = true := g
    rw [Bool.not_eq_true'] at g
    have g := of_decide_eq_false g
    intro _
    exact no (.inr g)
  have g2 : (!decide (AllC l)) = false := g
  rw [Bool.not_eq_false'] at g2
  have hC := of_decide_eq_true g2
  intro _
  refine enter tt_ok Try.func33 (nt := 6) (cd := body Try.f33) rfl rfl rfl rfl ?_
  intro _
  intro _
  refine range_ok ?_
  intro _
  refine enter tt_ok Try.func40 (nt := 31) (cd := body Try.f40) rfl rfl rfl rfl ?_
  intro _
  have hlen : 1 ≤ l.length := by omega
  have hl4 : l.length ≤ 4000 := by omega
  refine loop2 tt_ok [4] [] 9 (fun e : { e : Nat // (1 ≤ e ∧ e ≤ 17) ∧ Bef l e } => [(4, .int .i64 (e.1 : Nat))]) (fun _ => []) (fun e => 17 - e.1) ⟨1, ⟨by omega, by omega⟩, fun e a h1 h2 => by omega⟩ ?_
  intro _
  refine ⟨⟨th [] 9, rfl, rfl, rfl, rfl, rfl, rfl, ?_, ?_⟩, ?_⟩
  · (repeat' first | exact trivial | exact rfl | refine And.intro ?_ ?_)
  · (repeat' first | exact trivial | exact rfl | refine And.intro ?_ ?_)
  intro ⟨e, ⟨he1, he2⟩, hBe⟩
  intro _; refine ⟨fun g => ?_, fun g => ?_⟩
  rotate_left
  · have g := of_decide_eq_false (show decide ((e : Int) ≤ 16) = false from g)
    have : e = 17 := by omega
    subst this
    intro _
    intro _
    exact ⟨by unfold FitR; rw [if_neg (by omega), if_neg (fun h => h.elim (fun q => by omega) (fun q => q hC))]; exact .inr ⟨hBe, rfl⟩, rfl⟩
  have g := of_decide_eq_true (show decide ((e : Int) ≤ 16) = true from g)
  have hd : 1 ≤ (e : Int) ∧ (e : Int) ≤ 16 := by omega
  intro _
  by_cases h1 : l.length = 1
  · refine call_new [(0, some 0)] (slopes1_ok l e h1) rfl rfl rfl rfl ?_ ?_ ?_
    · (repeat' first | exact trivial | exact rfl | refine And.intro ?_ ?_)
    · (repeat' first | exact trivial | exact rfl | refine And.intro ?_ ?_)
    intro v h' hv
    obtain ⟨rfl, rfl⟩ := hv
    refine ⟨[(9, some 1)], 10, [(9, .arr [.int .i64] .own (.ints [0]))], .grw 9 1, rfl, rfl, rfl, rfl, rfl, ?_, ?_, ?_⟩
    · (repeat' first | exact trivial | exact rfl | refine And.intro ?_ ?_)
    · (repeat' first | exact trivial | exact rfl | refine And.intro ?_ ?_)
    intro _
    refine call_mut [(0, some 9)] (sort1_ok 0) rfl rfl rfl rfl ?_ ?_ ?_
    · (repeat' first | exact trivial | exact rfl | refine And.intro ?_ ?_)
    · (repeat' first | exact trivial | exact rfl | refine And.intro ?_ ?_)
    intro v h' ⟨hv, hd2⟩
    subst hv
    refine ⟨_, mut1o hd2, rfl, ?_⟩
    have hTp : ∀ a, a ∈ [0] ↔ a ∈ SS l e := fun a => by unfold SS; rw [if_pos h1]
    have hTs : Sd0 [0] := fun p q k1 k2 => by simp at k2; omega
    have hTb : Bd [0] := fun v hv => by simp at hv; subst hv; exact ⟨by decide, by decide⟩
    have hTl : [0].length = 1 := rfl
    intro _
    refine loop2 tt_ok [20] [] 10 (fun k : { k : Nat // k ≤ [0].length ∧ ∀ i, i < k → ¬ Fe l e (raw [0] i) } => [(20, .int .i64 (k.1 : Nat))]) (fun _ => []) (fun k => [0].length - k.1) ⟨0, Nat.zero_le _, fun i h => by omega⟩ ?_
    intro _
    refine ⟨⟨th [] 10, rfl, rfl, rfl, rfl, rfl, rfl, ?_, ?_⟩, ?_⟩
    · (repeat' first | exact trivial | exact rfl | refine And.intro ?_ ?_)
    · (repeat' first | exact trivial | exact rfl | refine And.intro ?_ ?_)
    intro ⟨k, hk, hno⟩
    have hk : k ≤ [0].length := hk
    intro _; refine ⟨fun g => ?_, fun g => ?_⟩
    rotate_left
    · have g := of_decide_eq_false (show decide ((k : Int) < ((1 : Nat) : Int)) = false from g)
      have hkT : k = [0].length := by omega
      refine ⟨⟨e + 1, ⟨by omega, by omega⟩, fun e' a h1 h2 h3 => ?_⟩, by show 17 - (e + 1) < 17 - e; omega, th [] 9, rfl, rfl, rfl, rfl, rfl, rfl, ?_, ?_⟩
      · by_cases q : e' = e
        · have h3' : a ∈ [0] := (hTp a).2 (by rw [← q]; exact h3)
          obtain ⟨i, hi⟩ := List.mem_iff_getElem.1 h3'
          obtain ⟨hi1, hi2⟩ := hi
          have : raw [0] i = a := by unfold raw; rw [List.getD_eq_getElem?_getD, List.getElem?_eq_getElem hi1, ← hi2]; rfl
          rw [q, ← this]; exact hno i (by omega)
        · exact hBe e' a h1 (by omega) h3
      · (repeat' first | exact trivial | exact rfl | refine And.intro ?_ ?_)
        show ((e + 1 : Nat) : Int) = IntKind.i64.wrap ((e : Int) + 1)
        rw [wrapS _ ⟨by omega, by omega⟩]; omega
      · (repeat' first | exact trivial | exact rfl | refine And.intro ?_ ?_)
    have g := of_decide_eq_true (show decide ((k : Int) < ((1 : Nat) : Int)) = true from g)
    obtain ⟨a, ha⟩ : ∃ a, a = raw [0] k := ⟨_, rfl⟩
    have hab : -1000000000 ≤ a ∧ a ≤ 1000000000 := by rw [ha]; exact hTb.at k
    have haT : a ∈ SS l e := (hTp a).1 (by
      rw [ha]; unfold raw
      rw [List.getD_eq_getElem?_getD, List.getElem?_eq_getElem (by omega)]
      exact List.getElem_mem (by omega))
    have eaQ : [0].getD ((k : Nat) : Int).toNat 0 = a := by rw [ha]; rfl
    intro _; refine ⟨show 0 ≤ (k : Int) ∧ (k : Int) < ((1 : Nat) : Int) by omega, ?_⟩
    intro _; refine ⟨show (k : Int).toNat < [0].length by omega, ?_⟩
    intro _
    refine yield_ok tt_ok ?_
    intro _
    refine loop2 tt_ok [7, 8, 30] [10] 11 (fun n : { n : Nat // n ≤ l.length ∧ lw l e a n ≤ hw l e a n } => [(7, .int .i64 (lw l e a n.1)), (8, .int .i64 (hw l e a n.1)), (30, .int .i64 (n.1 : Nat))]) (fun _ => [(10, .cells [.int .i64 a, .int .i64 0, .int .i64 (e : Nat)])]) (fun n => l.length - n.1) ⟨0, Nat.zero_le _, by simp [lw, hw]⟩ ?_
    intro _
    refine ⟨⟨th [] 11, rfl, rfl, rfl, rfl, rfl, rfl, ?_, ?_⟩, ?_⟩
    · (repeat' first | exact trivial | exact rfl | refine And.intro ?_ ?_)
    · (repeat' first | exact trivial | exact rfl | refine And.intro ?_ ?_)
      exact eaQ.symm
    intro ⟨n, hn, hfe⟩
    have hn : n ≤ l.length := hn
    have lb := lw_bd hC hd hab hl4 n hn
    intro _; refine ⟨fun g => ?_, fun g => ?_⟩
    rotate_left
    · have g := of_decide_eq_false (show decide ((n : Int) < (l.length : Int)) = false from g)
      have hnl : n = l.length := by omega
      subst hnl
      intro _
      intro _
      intro _
      refine ⟨?_, rfl⟩
      unfold FitR
      rw [if_neg (by omega), if_neg (fun h => h.elim (fun q => by omega) (fun q => q hC))]
      refine .inl ⟨e, a, hd, haT, ?_, hBe, fun a' h1' h2' => ?_, rfl⟩
      · exact hfe
      · obtain ⟨i, hi⟩ := List.mem_iff_getElem.1 ((hTp a').2 h1')
        obtain ⟨hi1, hi2⟩ := hi
        have er : raw [0] i = a' := by unfold raw; rw [List.getD_eq_getElem?_getD, List.getElem?_eq_getElem hi1, ← hi2]; rfl
        have hik : i < k := by
          by_cases q : i < k
          · exact q
          · by_cases q2 : i = k
            · rw [← er, q2, ← ha] at h2'; omega
            · have := hTs k i (by omega) hi1
              unfold at' at this
              rw [er, ← ha] at this; omega
        rw [← er]; exact hno i hik
    have g := of_decide_eq_true (show decide ((n : Int) < (l.length : Int)) = true from g)
    have vb := vd_bd hC hd hab hl4 (k := n) (by omega)
    have lb2 := lw_bd hC hd hab hl4 (n + 1) (by omega)
    have ev : l.getD (0 + ((n : Nat) : Int).toNat) 0 = raw l n := by rw [Nat.zero_add]; rfl
    intro _; refine ⟨show 0 ≤ (n : Int) ∧ (n : Int) < (l.length : Int) by omega, ?_⟩
    intro _; refine ⟨show 0 + (n : Int).toNat < l.length by omega, ?_⟩
    have eLow : IntKind.i64.wrap (IntKind.i64.wrap ((e : Int) * l.getD (0 + ((n : Nat) : Int).toNat) 0) - IntKind.i64.wrap (a * (n : Int))) = (e : Int) * raw l n - a * n := by
      rw [ev, wrapS ((e : Int) * raw l n) ⟨by omega, by omega⟩, wrapS (a * (n : Int)) ⟨by omega, by omega⟩, wrapS _ ⟨by omega, by omega⟩]
    have eMx : max (lw l e a n) (IntKind.i64.wrap (IntKind.i64.wrap ((e : Int) * l.getD (0 + ((n : Nat) : Int).toNat) 0) - IntKind.i64.wrap (a * (n : Int)))) = lw l e a (n + 1) := by rw [eLow]; rfl
    have eMn : min (hw l e a n) (IntKind.i64.wrap (IntKind.i64.wrap (IntKind.i64.wrap (IntKind.i64.wrap ((e : Int) * l.getD (0 + ((n : Nat) : Int).toNat) 0) - IntKind.i64.wrap (a * (n : Int))) + (e : Int)) - 1)) = hw l e a (n + 1) := by
      rw [eLow, wrapS ((e : Int) * raw l n - a * n + e) ⟨by omega, by omega⟩, wrapS _ ⟨by omega, by omega⟩]; rfl
    intro _; refine ⟨by kernel_rfl, ?_⟩
    intro _; refine ⟨fun g => ?_, fun g => ?_⟩
    · have g2 : decide (max (lw l e a n) (IntKind.i64.wrap (IntKind.i64.wrap ((e : Int) * l.getD (0 + ((n : Nat) : Int).toNat) 0) - IntKind.i64.wrap (a * (n : Int)))) > min (hw l e a n) (IntKind.i64.wrap (IntKind.i64.wrap (IntKind.i64.wrap (IntKind.i64.wrap ((e : Int) * l.getD (0 + ((n : Nat) : Int).toNat) 0) - IntKind.i64.wrap (a * (n : Int))) + (e : Int)) - 1))) = true := g
      rw [eMx, eMn] at g2
      have g2 := of_decide_eq_true g2
      have hnf : ¬ Fe l e a := not_fe (k := n + 1) (by omega) g2
      intro _
      refine ⟨⟨k + 1, by show k + 1 ≤ [0].length; omega, fun i hi => ?_⟩, by show [0].length - (k + 1) < [0].length - k; omega, th [] 10, rfl, rfl, rfl, rfl, rfl, rfl, ?_, ?_⟩
      · by_cases q : i = k
        · rw [q, ← ha]; exact hnf
        · exact hno i (by omega)
      · (repeat' first | exact trivial | exact rfl | refine And.intro ?_ ?_)
        exact (wrap_nat k (by omega)).symm
      · (repeat' first | exact trivial | exact rfl | refine And.intro ?_ ?_)
    have g2 : decide (max (lw l e a n) (IntKind.i64.wrap (IntKind.i64.wrap ((e : Int) * l.getD (0 + ((n : Nat) : Int).toNat) 0) - IntKind.i64.wrap (a * (n : Int)))) > min (hw l e a n) (IntKind.i64.wrap (IntKind.i64.wrap (IntKind.i64.wrap (IntKind.i64.wrap ((e : Int) * l.getD (0 + ((n : Nat) : Int).toNat) 0) - IntKind.i64.wrap (a * (n : Int))) + (e : Int)) - 1))) = false := g
    rw [eMx, eMn] at g2
    have g2 := of_decide_eq_false g2
    refine ⟨⟨n + 1, by omega, by omega⟩, by show l.length - (n + 1) < l.length - n; omega, th [] 11, rfl, rfl, rfl, rfl, rfl, rfl, ?_, ?_⟩
    · (repeat' first | exact trivial | exact rfl | refine And.intro ?_ ?_)
      · exact eMx.symm
      · exact eMn.symm
      · exact (wrap_nat n (by omega)).symm
    · (repeat' first | exact trivial | exact rfl | refine And.intro ?_ ?_)
  refine call_new [(0, some 0)] (slopes_ok l e hC (by omega) hl4 hd) rfl rfl rfl rfl ?_ ?_ ?_
  · (repeat' first | exact trivial | exact rfl | refine And.intro ?_ ?_)
  · (repeat' first | exact trivial | exact rfl | refine And.intro ?_ ?_)
  intro v h' hv
  obtain ⟨rfl, rfl⟩ := hv
  refine ⟨[(9, some 1)], 10, [(9, .arr [.int .i64] .grow (.ints (slopes l e)))], .grw 9 (slopes l e).length, rfl, rfl, rfl, rfl, rfl, ?_, ?_, ?_⟩
  · (repeat' first | exact trivial | exact rfl | refine And.intro ?_ ?_)
  · (repeat' first | exact trivial | exact rfl | refine And.intro ?_ ?_)
  have cb := cnt_bd (l := l) (d := e) (by omega) hd
  have sl : (slopes l e).length = cntS l e := seqI_len _ _
  intro _
  refine call_mut [(0, some 9)] (sort_ok (slopes l e) (slopes_bd l e) (by omega)) rfl rfl rfl rfl ?_ ?_ ?_
  · (repeat' first | exact trivial | exact rfl | refine And.intro ?_ ?_)
  · (repeat' first | exact trivial | exact rfl | refine And.intro ?_ ?_)
  intro v h' ⟨T, ⟨hTq, hTs⟩, hv, hd2⟩
  subst hv
  refine ⟨_, mut1 hd2, rfl, ?_⟩
  have hTp : ∀ a, a ∈ T ↔ a ∈ SS l e := fun a => by rw [hTq.mem_iff]; unfold SS; rw [if_neg h1]
  have hTb : Bd T := fun v hv => slopes_bd l e v (hTq.mem_iff.1 hv)
  have hTl : T.length = (slopes l e).length := hTq.length_eq
  intro _
  refine loop2 tt_ok [20] [] 10 (fun k : { k : Nat // k ≤ T.length ∧ ∀ i, i < k → ¬ Fe l e (raw T i) } => [(20, .int .i64 (k.1 : Nat))]) (fun _ => []) (fun k => T.length - k.1) ⟨0, Nat.zero_le _, fun i h => by omega⟩ ?_
  intro _
  refine ⟨⟨th [] 10, rfl, rfl, rfl, rfl, rfl, rfl, ?_, ?_⟩, ?_⟩
  · (repeat' first | exact trivial | exact rfl | refine And.intro ?_ ?_)
  · (repeat' first | exact trivial | exact rfl | refine And.intro ?_ ?_)
  intro ⟨k, hk, hno⟩
  have hk : k ≤ T.length := hk
  intro _; refine ⟨fun g => ?_, fun g => ?_⟩
  rotate_left
  · have g := of_decide_eq_false (show decide ((k : Int) < ((slopes l e).length : Int)) = false from g)
    have hkT : k = T.length := by omega
    refine ⟨⟨e + 1, ⟨by omega, by omega⟩, fun e' a h1 h2 h3 => ?_⟩, by show 17 - (e + 1) < 17 - e; omega, th [] 9, rfl, rfl, rfl, rfl, rfl, rfl, ?_, ?_⟩
    · by_cases q : e' = e
      · have h3' : a ∈ T := (hTp a).2 (by rw [← q]; exact h3)
        obtain ⟨i, hi⟩ := List.mem_iff_getElem.1 h3'
        obtain ⟨hi1, hi2⟩ := hi
        have : raw T i = a := by unfold raw; rw [List.getD_eq_getElem?_getD, List.getElem?_eq_getElem hi1, ← hi2]; rfl
        rw [q, ← this]; exact hno i (by omega)
      · exact hBe e' a h1 (by omega) h3
    · (repeat' first | exact trivial | exact rfl | refine And.intro ?_ ?_)
      show ((e + 1 : Nat) : Int) = IntKind.i64.wrap ((e : Int) + 1)
      rw [wrapS _ ⟨by omega, by omega⟩]; omega
    · (repeat' first | exact trivial | exact rfl | refine And.intro ?_ ?_)
  have g := of_decide_eq_true (show decide ((k : Int) < ((slopes l e).length : Int)) = true from g)
  obtain ⟨a, ha⟩ : ∃ a, a = raw T k := ⟨_, rfl⟩
  have hab : -1000000000 ≤ a ∧ a ≤ 1000000000 := by rw [ha]; exact hTb.at k
  have haT : a ∈ SS l e := (hTp a).1 (by
    rw [ha]; unfold raw
    rw [List.getD_eq_getElem?_getD, List.getElem?_eq_getElem (by omega)]
    exact List.getElem_mem (by omega))
  have eaQ : T.getD ((k : Nat) : Int).toNat 0 = a := by rw [ha]; rfl
  intro _; refine ⟨show 0 ≤ (k : Int) ∧ (k : Int) < ((slopes l e).length : Int) by omega, ?_⟩
  intro _; refine ⟨show (k : Int).toNat < T.length by omega, ?_⟩
  intro _
  refine yield_ok tt_ok ?_
  intro _
  refine loop2 tt_ok [7, 8, 30] [10] 11 (fun n : { n : Nat // n ≤ l.length ∧ lw l e a n ≤ hw l e a n } => [(7, .int .i64 (lw l e a n.1)), (8, .int .i64 (hw l e a n.1)), (30, .int .i64 (n.1 : Nat))]) (fun _ => [(10, .cells [.int .i64 a, .int .i64 0, .int .i64 (e : Nat)])]) (fun n => l.length - n.1) ⟨0, Nat.zero_le _, by simp [lw, hw]⟩ ?_
  intro _
  refine ⟨⟨th [] 11, rfl, rfl, rfl, rfl, rfl, rfl, ?_, ?_⟩, ?_⟩
  · (repeat' first | exact trivial | exact rfl | refine And.intro ?_ ?_)
  · (repeat' first | exact trivial | exact rfl | refine And.intro ?_ ?_)
    exact eaQ.symm
  intro ⟨n, hn, hfe⟩
  have hn : n ≤ l.length := hn
  have lb := lw_bd hC hd hab hl4 n hn
  intro _; refine ⟨fun g => ?_, fun g => ?_⟩
  rotate_left
  · have g := of_decide_eq_false (show decide ((n : Int) < (l.length : Int)) = false from g)
    have hnl : n = l.length := by omega
    subst hnl
    intro _
    intro _
    intro _
    refine ⟨?_, rfl⟩
    unfold FitR
    rw [if_neg (by omega), if_neg (fun h => h.elim (fun q => by omega) (fun q => q hC))]
    refine .inl ⟨e, a, hd, haT, ?_, hBe, fun a' h1' h2' => ?_, rfl⟩
    · exact hfe
    · obtain ⟨i, hi⟩ := List.mem_iff_getElem.1 ((hTp a').2 h1')
      obtain ⟨hi1, hi2⟩ := hi
      have er : raw T i = a' := by unfold raw; rw [List.getD_eq_getElem?_getD, List.getElem?_eq_getElem hi1, ← hi2]; rfl
      have hik : i < k := by
        by_cases q : i < k
        · exact q
        · by_cases q2 : i = k
          · rw [← er, q2, ← ha] at h2'; omega
          · have := hTs k i (by omega) hi1
            unfold at' at this
            rw [er, ← ha] at this; omega
      rw [← er]; exact hno i hik
  have g := of_decide_eq_true (show decide ((n : Int) < (l.length : Int)) = true from g)
  have vb := vd_bd hC hd hab hl4 (k := n) (by omega)
  have lb2 := lw_bd hC hd hab hl4 (n + 1) (by omega)
  have ev : l.getD (0 + ((n : Nat) : Int).toNat) 0 = raw l n := by rw [Nat.zero_add]; rfl
  intro _; refine ⟨show 0 ≤ (n : Int) ∧ (n : Int) < (l.length : Int) by omega, ?_⟩
  intro _; refine ⟨show 0 + (n : Int).toNat < l.length by omega, ?_⟩
  have eLow : IntKind.i64.wrap (IntKind.i64.wrap ((e : Int) * l.getD (0 + ((n : Nat) : Int).toNat) 0) - IntKind.i64.wrap (a * (n : Int))) = (e : Int) * raw l n - a * n := by
    rw [ev, wrapS ((e : Int) * raw l n) ⟨by omega, by omega⟩, wrapS (a * (n : Int)) ⟨by omega, by omega⟩, wrapS _ ⟨by omega, by omega⟩]
  have eMx : max (lw l e a n) (IntKind.i64.wrap (IntKind.i64.wrap ((e : Int) * l.getD (0 + ((n : Nat) : Int).toNat) 0) - IntKind.i64.wrap (a * (n : Int)))) = lw l e a (n + 1) := by rw [eLow]; rfl
  have eMn : min (hw l e a n) (IntKind.i64.wrap (IntKind.i64.wrap (IntKind.i64.wrap (IntKind.i64.wrap ((e : Int) * l.getD (0 + ((n : Nat) : Int).toNat) 0) - IntKind.i64.wrap (a * (n : Int))) + (e : Int)) - 1)) = hw l e a (n + 1) := by
    rw [eLow, wrapS ((e : Int) * raw l n - a * n + e) ⟨by omega, by omega⟩, wrapS _ ⟨by omega, by omega⟩]; rfl
  intro _; refine ⟨by kernel_rfl, ?_⟩
  intro _; refine ⟨fun g => ?_, fun g => ?_⟩
  · have g2 : decide (max (lw l e a n) (IntKind.i64.wrap (IntKind.i64.wrap ((e : Int) * l.getD (0 + ((n : Nat) : Int).toNat) 0) - IntKind.i64.wrap (a * (n : Int)))) > min (hw l e a n) (IntKind.i64.wrap (IntKind.i64.wrap (IntKind.i64.wrap (IntKind.i64.wrap ((e : Int) * l.getD (0 + ((n : Nat) : Int).toNat) 0) - IntKind.i64.wrap (a * (n : Int))) + (e : Int)) - 1))) = true := g
    rw [eMx, eMn] at g2
    have g2 := of_decide_eq_true g2
    have hnf : ¬ Fe l e a := not_fe (k := n + 1) (by omega) g2
    intro _
    refine ⟨⟨k + 1, by show k + 1 ≤ T.length; omega, fun i hi => ?_⟩, by show T.length - (k + 1) < T.length - k; omega, th [] 10, rfl, rfl, rfl, rfl, rfl, rfl, ?_, ?_⟩
    · by_cases q : i = k
      · rw [q, ← ha]; exact hnf
      · exact hno i (by omega)
    · (repeat' first | exact trivial | exact rfl | refine And.intro ?_ ?_)
      exact (wrap_nat k (by omega)).symm
    · (repeat' first | exact trivial | exact rfl | refine And.intro ?_ ?_)
  have g2 : decide (max (lw l e a n) (IntKind.i64.wrap (IntKind.i64.wrap ((e : Int) * l.getD (0 + ((n : Nat) : Int).toNat) 0) - IntKind.i64.wrap (a * (n : Int)))) > min (hw l e a n) (IntKind.i64.wrap (IntKind.i64.wrap (IntKind.i64.wrap (IntKind.i64.wrap ((e : Int) * l.getD (0 + ((n : Nat) : Int).toNat) 0) - IntKind.i64.wrap (a * (n : Int))) + (e : Int)) - 1))) = false := g
  rw [eMx, eMn] at g2
  have g2 := of_decide_eq_false g2
  refine ⟨⟨n + 1, by omega, by omega⟩, by show l.length - (n + 1) < l.length - n; omega, th [] 11, rfl, rfl, rfl, rfl, rfl, rfl, ?_, ?_⟩
  · (repeat' first | exact trivial | exact rfl | refine And.intro ?_ ?_)
    · exact eMx.symm
    · exact eMn.symm
    · exact (wrap_nat n (by omega)).symm
  · (repeat' first | exact trivial | exact rfl | refine And.intro ?_ ?_)
def apre (n : Nat) : AC → AC
  | .ints l => .ints (l.take n)
  | .recs l => .recs (l.take n)
theorem rowAV_len : ∀ (ks : List CK) (j : Nat) (ds : List D), (rowAV ks j ds).length = ks.length
  | [], _, _ => rfl
  | c :: ks, j, ds => by simp [rowAV, rowAV_len ks (j + 1) ds]
theorem flat_take {g : List D → List Go.Vm.AV} {z : Nat} (hg : ∀ d, (g d).length = z) : ∀ (l : List (List D)) (n : Nat), n ≤ l.length → (l.flatMap g).take (n * z) = (l.take n).flatMap g
  | [], n, h => by
    have : n = 0 := by simpa using h
    subst this; simp
  | d :: l, 0, h => by simp
  | d :: l, n + 1, h => by
    have ih := flat_take hg l n (by simpa using h)
    simp only [List.flatMap_cons, List.take_succ_cons]
    have e : (n + 1) * z = (g d).length + n * z := by rw [hg, Nat.add_mul]; omega
    rw [e, List.take_length_add_append, ih]
theorem avs_take {ks : List CK} {a : AC} {n : Nat} (hk : ksOk ks a) (h : n ≤ a.len) : (a.avs ks).take (n * ks.length) = (apre n a).avs ks := by
  cases a with
  | ints l =>
    obtain ⟨k, rfl⟩ := hk
    simp only [AC.avs, apre, List.length_singleton, Nat.mul_one, List.map_take]
  | recs l =>
    simp only [AC.avs, apre]
    exact flat_take (fun d => rowAV_len ks 0 d) l n h
theorem apre_len {a : AC} {n : Nat} (h : n ≤ a.len) : (apre n a).len = n := by
  cases a <;> simp [apre, AC.len] at h ⊢ <;> omega
theorem row_pre {ks : List CK} {a : AC} {n B b0 : Nat} {r : Go.Vm.AO} (hk : ksOk ks a) (h : n ≤ a.len) (hr : RowOk .rd ks a B b0 r) : RowOk .rd ks (apre n a) B b0 r := by
  cases r <;> simp only [RowOk] at hr ⊢
  obtain ⟨h1, h2, h3⟩ := hr
  have hm : n * ks.length ≤ a.len * ks.length := Nat.mul_le_mul_right _ h
  refine ⟨h1, by rw [apre_len h]; omega, ?_⟩
  rw [apre_len h, ← avs_take hk h, ← h3, List.take_take]
  congr 1
  omega
def Pre (o o' : Ob) : Prop := o = o' ∨ ∃ ks a n, n ≤ a.len ∧ o = .arr ks .rd (apre n a) ∧ o' = .arr ks .rd a
theorem Pre.own {o o' : Ob} (h : Pre o o') : o.own = o'.own := by
  rcases h with rfl | ⟨ks, a, n, _, rfl, rfl⟩ <;> rfl
theorem Pre.live {o o' : Ob} (h : Pre o o') : o.live = o'.live := by
  rcases h with rfl | ⟨ks, a, n, _, rfl, rfl⟩ <;> rfl
theorem Pre.held {o o' : Ob} {n x : Nat} {ν : Nu} {g : Nat → Option Go.Vm.AO} (h : Pre o o') (hh : Go.Vm2.Held n ν x o' g) : Go.Vm2.Held n ν x o g := by
  rcases h with rfl | ⟨ks, a, m, hm, rfl, rfl⟩
  · exact hh
  · simp only [Go.Vm2.Held] at hh ⊢
    obtain ⟨k1, k2⟩ := hh
    refine ⟨?_, ?_⟩
    · cases a <;> exact k1
    · rcases k2 with ⟨k2, k3⟩ | ⟨B, b0, r, k2, k3, k4⟩
      · exact .inl ⟨k2, by rw [apre_len hm]; omega⟩
      · exact .inr ⟨B, b0, r, k2, k3, row_pre k1 hm k4⟩
theorem weak {fid : FuncId} {args : List V} {h h0 : H} {K : V → H → Prop} (hs : SemF Try.prog fid args h0 K) (hnx : h0.nx = h.nx) (hfz : h0.fz = h.fz) (hw : ∀ x o, h0.get x = some o → ∃ o', h.get x = some o' ∧ Pre o o') : SemF Try.prog fid args h K := by
  refine ⟨fun c ν s aa hR hA => ?_⟩
  have hR0 : R c ν h0 s := {
    ok := hR.ok
    obj := fun x o ho => by
      obtain ⟨o', h1, h2⟩ := hw x o ho
      rw [hnx]; exact h2.held (hR.obj x o' h1)
    lt := fun x o ho => by
      obtain ⟨o', h1, h2⟩ := hw x o ho
      rw [hnx]; exact hR.lt x o' h1
    sep := fun x y o o' B B' b b' hxy ho ho' hf hown hlive => by
      obtain ⟨p, h1, h2⟩ := hw x o ho
      obtain ⟨p', h3, h4⟩ := hw y o' ho'
      exact hR.sep x y p p' B B' b b' hxy h1 h3 (by rw [← hfz]; exact hf) (by rw [← h2.own]; exact hown) (by rw [← h4.live]; exact hlive)
    gsep := fun x o B b b' ho hf hown => by
      obtain ⟨p, h1, h2⟩ := hw x o ho
      exact hR.gsep x p B b b' h1 (by rw [← hfz]; exact hf) (by rw [← h2.own]; exact hown)
    froz := hR.froz
    kin := hR.kin
    th := fun D hD => by
      obtain ⟨k1, k2, k3, k4⟩ := hR.th D hD
      refine ⟨k1, k2, k3, fun x o B b ho hf hown => ?_⟩
      obtain ⟨p, h1, h2⟩ := hw x o ho
      exact k4 x p B b h1 (by rw [← hfz]; exact hf) (by rw [← h2.own]; exact hown)
    tc := hR.tc
    p_le := by rw [hnx]; exact hR.p_le
    lo_le := hR.lo_le
    new := fun x B b h1 h2 => hR.new x B b h1 (by rw [← hnx]; exact h2)
    blk := fun x B b h1 => hR.blk x B b (by rw [← hnx]; exact h1)
    snap := hR.snap }
  obtain ⟨N, a, s', v, h', ν', r1, r2, r3, r4, r5⟩ := hs.run c ν s aa hR0 (by rw [hnx]; exact hA)
  exact ⟨N, a, s', v, h', ν', r1, r2, r3, r4, ⟨fun x hx => r5.same x (by rw [hnx]; exact hx), by rw [← hnx]; exact r5.nx, by rw [← hfz]; exact r5.fz, r5.n, fun x B b h1 h2 => r5.new x B b (by rw [hnx]; exact h1) h2⟩⟩
theorem raw_take {L : List Int} {n i : Nat} (h : i < n) : raw (L.take n) i = raw L i := by
  unfold raw; rw [List.getD_eq_getElem?_getD, List.getD_eq_getElem?_getD, List.getElem?_take_of_lt h]
theorem tk_len {L : List Int} {n : Nat} (h : n ≤ L.length) : (L.take n).length = n := by simp; omega
theorem pre_dv {l : List Int} {n : Nat} (hn : n ≤ l.length) (x : Nat) (o : Ob) (h : (⟨1, 1, DV (l.take n)⟩ : H).get x = some o) : ∃ o', (⟨1, 1, DV l⟩ : H).get x = some o' ∧ Pre o o' := by
  unfold H.get at h ⊢
  simp only [look_cons] at h ⊢
  split at h
  · rename_i e
    rw [if_pos e]
    cases h
    exact ⟨_, rfl, .inr ⟨_, .ints l, n, hn, rfl, rfl⟩⟩
  · cases h
theorem Fit_pre (l : List Int) (n : Nat) (hn : n ≤ l.length) (hl : l.length ≤ 9223372036854775807) : SemF Try.prog 14 [.slc 0 1 0 n] ⟨1, 1, DV l⟩ (fun v _ => FitR (l.take n) v ∧ nameless v = true) := by
  have h := Fit_ok (l.take n) (by rw [tk_len hn]; omega)
  rw [tk_len hn] at h
  exact weak h rfl rfl (pre_dv hn)
def Vls (l : List Int) : Prop := AllC l ∧ 1 ≤ l.length ∧ l.length ≤ 4000
instance decVls (l : List Int) : Decidable (Vls l) := inferInstanceAs (Decidable (_ ∧ _))
theorem vals_ok (l : List Int) (hl : l.length ≤ 9223372036854775807) : SemF Try.prog 34 [.slc 0 1 0 l.length] ⟨1, 1, DV l⟩ (fun v _ => v = .test (decide (Vls l)) ∧ nameless v = true) := by
  refine SemF.test ?_
  refine enter tt_ok Try.func34 (nt := 24) (cd := body Try.f34) rfl rfl rfl rfl ?_
  intro _
  refine loop2 tt_ok [3] [] 1 (fun k : { k : Nat // k ≤ l.length ∧ ∀ i, i < k → Cd (raw l i) } => [(3, .int .i64 (k.1 : Nat))]) (fun _ => []) (fun k => l.length - k.1) ⟨0, by omega, fun i h => by omega⟩ ?_
  intro _
  refine ⟨⟨th [] 1, rfl, rfl, rfl, rfl, rfl, rfl, ?_, ?_⟩, ?_⟩
  · (repeat' first | exact trivial | exact rfl | refine And.intro ?_ ?_)
  · (repeat' first | exact trivial | exact rfl | refine And.intro ?_ ?_)
  intro ⟨k, hk, hm⟩
  intro _; refine ⟨fun g => ?_, fun g => ?_⟩
  rotate_left
  · have g := of_decide_eq_false (show decide ((k : Int) < (l.length : Int)) = false from g)
    have : k = l.length := by omega
    subst this
    intro _; refine ⟨fun g => ?_, fun g => ?_⟩
    · have g1 := of_decide_eq_true (show decide ((l.length : Int) ≥ 1) = true from g)
      intro _
      refine ⟨_, .inr rfl, ?_, rfl⟩
      have : decide (Vls l) = decide ((l.length : Int) ≤ 4000) := by
        by_cases e : (l.length : Int) ≤ 4000
        · rw [decide_eq_true e, decide_eq_true (show Vls l from ⟨hm, by omega, by omega⟩)]
        · rw [decide_eq_false e, decide_eq_false (fun h : Vls l => by have := h.2.2; omega)]
      rw [this]
    · have g1 := of_decide_eq_false (show decide ((l.length : Int) ≥ 1) = false from g)
      intro _
      exact ⟨false, .inl rfl, by rw [decide_eq_false (fun h : Vls l => by have := h.2.1; omega)], rfl⟩
  have g := of_decide_eq_true (show decide ((k : Int) < (l.length : Int)) = true from g)
  intro _; refine ⟨show 0 ≤ (k : Int) ∧ (k : Int) < (l.length : Int) by omega, ?_⟩
  intro _; refine ⟨show 0 + (k : Int).toNat < l.length by omega, ?_⟩
  intro _
  refine rcoord_test _ _ _ ?_
  have ev : l.getD (0 + ((k : Nat) : Int).toNat) 0 = raw l k := by rw [Nat.zero_add]; rfl
  intro _; refine ⟨fun g => ?_, fun g => ?_⟩
  · have g2 : (!decide (Cd (l.getD (0 + ((k : Nat) : Int).toNat) 0))) = true := g
    rw [Bool.not_eq_true', ev] at g2
    have g2 := of_decide_eq_false g2
    intro _
    exact ⟨false, .inl rfl, by rw [decide_eq_false (fun h : Vls l => g2 (h.1 k (by omega)))], rfl⟩
  have g2 : (!decide (Cd (l.getD (0 + ((k : Nat) : Int).toNat) 0))) = false := g
  rw [Bool.not_eq_false', ev] at g2
  have g2 := of_decide_eq_true g2
  refine ⟨⟨k + 1, by omega, fun i hi => ?_⟩, by show l.length - (k + 1) < l.length - k; omega, th [] 1, rfl, rfl, rfl, rfl, rfl, rfl, ?_, ?_⟩
  · by_cases e : i = k
    · subst e; exact g2
    · exact hm i (by omega)
  · (repeat' first | exact trivial | exact rfl | refine And.intro ?_ ?_)
    show ((k + 1 : Nat) : Int) = IntKind.i64.wrap ((k : Int) + 1)
    exact (wrap_nat k (by omega)).symm
  · (repeat' first | exact trivial | exact rfl | refine And.intro ?_ ?_)
theorem Vals_pre (l : List Int) (n : Nat) (hn : n ≤ l.length) (hl : l.length ≤ 9223372036854775807) : SemF Try.prog 34 [.slc 0 1 0 n] ⟨1, 1, DV l⟩ (fun v _ => v = .test (decide (Vls (l.take n))) ∧ nameless v = true) := by
  have h := vals_ok (l.take n) (by rw [tk_len hn]; omega)
  rw [tk_len hn] at h
  exact weak h rfl rfl (pre_dv hn)
def addv (a b d by_ : Int) : V := if Qv a b d ∧ Cd by_ then (if Cd (b + by_ * d) then .tup [QV a (b + by_ * d) d, .int .i64 0] else .tup [QV 0 0 0, .int .i64 3]) else .tup [QV 0 0 0, .int .i64 1]
theorem add_ok (a b d by_ : Int) : SemF Try.prog 12 [.agg (QA a b d), .int .i64 by_] ⟨0, 0, []⟩ (fun v _ => v = addv a b d by_ ∧ nameless v = true) := by
  refine enter tt_ok Try.func12 (nt := 29) (cd := body Try.f12) rfl rfl rfl rfl ?_
  intro _
  refine call_pure [] (valid_ok a b d) rfl rfl rfl ?_ ?_ ?_
  · (repeat' first | exact trivial | exact rfl | refine And.intro ?_ ?_)
  · (repeat' first | exact trivial | exact rfl | refine And.intro ?_ ?_)
  intro v hv _
  subst hv
  intro _; refine ⟨fun g => ?_, fun g => ?_⟩
  · have g : (!decide (Qv a b d)) = true := g
    rw [Bool.not_eq_true'] at g
    have g := of_decide_eq_false g
    intro _
    exact ⟨by unfold addv; rw [if_neg (fun h => g h.1)], rfl⟩
  have g : (!decide (Qv a b d)) = false := g
  rw [Bool.not_eq_false'] at g
  have hq := of_decide_eq_true g
  intro _
  refine coord_test _ _ _ ?_
  intro _; refine ⟨fun g => ?_, fun g => ?_⟩
  · have g : (!decide (Cd by_)) = true := g
    rw [Bool.not_eq_true'] at g
    have g := of_decide_eq_false g
    intro _
    exact ⟨by unfold addv; rw [if_neg (fun h => g h.2)], rfl⟩
  have g : (!decide (Cd by_)) = false := g
  rw [Bool.not_eq_false'] at g
  have hb := of_decide_eq_true g
  have b1 := hb.1; have b2 := hb.2
  have d1 := hq.1.1; have d2 := hq.1.2
  have c1 := hq.2.2.1; have c2 := hq.2.2.2
  have m1 : (-1000000000) * d ≤ by_ * d := Int.mul_le_mul_of_nonneg_right b1 (by omega)
  have m2 : by_ * d ≤ 1000000000 * d := Int.mul_le_mul_of_nonneg_right b2 (by omega)
  have ew : IntKind.i64.wrap (b + IntKind.i64.wrap (by_ * d)) = b + by_ * d := by rw [wrapS (by_ * d) ⟨by omega, by omega⟩, wrapS _ ⟨by omega, by omega⟩]
  intro _
  refine coord_test _ _ _ ?_
  intro _; refine ⟨fun g => ?_, fun g => ?_⟩
  · have g : (!decide (Cd (IntKind.i64.wrap (b + IntKind.i64.wrap (by_ * d))))) = true := g
    rw [Bool.not_eq_true', ew] at g
    have g := of_decide_eq_false g
    intro _
    exact ⟨by unfold addv; rw [if_pos ⟨hq, hb⟩, if_neg g], rfl⟩
  have g : (!decide (Cd (IntKind.i64.wrap (b + IntKind.i64.wrap (by_ * d))))) = false := g
  rw [Bool.not_eq_false', ew] at g
  have g := of_decide_eq_true g
  intro _
  refine ⟨?_, rfl⟩
  unfold addv; rw [if_pos ⟨hq, hb⟩, if_pos g]
  show V.tup [QV a (IntKind.i64.wrap (b + IntKind.i64.wrap (by_ * d))) d, .int .i64 0] = _
  rw [ew]
end Go.Proofs.Ytpodfpoaplnheaa.srt
