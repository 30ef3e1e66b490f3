/-
 Contracts of packages quot, curve and contract. No conditions beyond those that its theorems name.
-/
import Derived.Test.YtbcjncoajilijaaRows
import Derived.Test.YtbcjncoajilijaaVwOpen2
import Derived.Test.YtbcjncoajilijaaVwRules7
import Derived.WalkKit
import Derived.ProofKit
import Derived.OpenShut
import Derived.Carry
namespace Go.Proofs.Ytbcjncoajilijaa.con
open Go.ChangeShapes Go.WideShapes Go.ChangeAt Go.RowKit
open Go.Vm (Facts Val Sound)
open Go.Vm2
set_option linter.unusedVariables false
set_option linter.unusedSectionVars false
set_option maxRecDepth 100000
def ts : List Nat := [24,27,36,4,3,30,26,43,71,37,22,54,68,44,52,89,107,109,118,5,9,117]
def tt : Go.Vm2.TT := [
 (24,⟨(.struct [⟨0,1,false⟩,⟨1,1,false⟩,⟨2,1,false⟩]),true,3,.agg [.int .i64 (0),.int .i64 (0),.nils],false⟩),
 (27,⟨(.slice 36 4 32 [.int .i64,.int .i64,.int .i64,.int .i64]),false,1,.nils,true⟩),
 (36,⟨(.struct [⟨0,1,false⟩,⟨1,1,false⟩,⟨2,1,false⟩,⟨3,1,false⟩]),true,4,.agg [.int .i64 (0),.int .i64 (0),.int .i64 (0),.int .i64 (0)],true⟩),
 (4,⟨.bool,false,1,.bool false,true⟩),
 (3,⟨(.int .i64),false,1,.int .i64 (0),true⟩),
 (30,⟨(.int .i64),false,1,.int .i64 (0),true⟩),
 (26,⟨(.struct [⟨0,1,false⟩,⟨1,1,false⟩,⟨2,1,false⟩,⟨3,1,false⟩,⟨4,1,false⟩]),true,5,.agg [.int .i64 (0),.int .i64 (0),.int .i64 (0),.int .i64 (0),.bool false],true⟩),
 (43,⟨(.slice 71 1 2 [.int .u16]),false,1,.nils,true⟩),
 (71,⟨(.int .u16),false,1,.int .u16 (0),true⟩),
 (37,⟨(.slice 3 1 8 [.int .i64]),false,1,.nils,true⟩),
 (22,⟨(.slice 54 5 40 [.int .i64,.int .i64,.int .i64,.int .i64,.int .i64]),false,1,.nils,true⟩),
 (54,⟨(.struct [⟨0,1,false⟩,⟨1,1,false⟩,⟨2,3,true⟩]),true,5,.agg [.int .i64 (0),.int .i64 (0),.int .i64 (0),.int .i64 (0),.int .i64 (0)],true⟩),
 (68,⟨(.struct [⟨0,5,true⟩,⟨5,1,false⟩]),true,6,.agg [.int .i64 (0),.int .i64 (0),.int .i64 (0),.int .i64 (0),.bool false,.int .i64 (0)],true⟩),
 (44,⟨(.int .u32),false,1,.int .u32 (0),true⟩),
 (52,⟨(.struct [⟨0,1,false⟩,⟨1,1,false⟩,⟨2,1,false⟩]),true,3,.agg [.int .i64 (0),.int .i64 (0),.int .i64 (0)],true⟩),
 (89,⟨.other,false,1,.nilf,true⟩),
 (107,⟨(.int .u64),false,1,.int .u64 (0),true⟩),
 (109,⟨(.int .i64),false,1,.int .i64 (0),true⟩),
 (118,⟨(.int .u64),false,1,.int .u64 (0),true⟩),
 (5,⟨(.int .u8),false,1,.int .u8 (0),true⟩),
 (9,⟨.string,false,1,.str [],true⟩),
 (117,⟨(.int .u64),false,1,.int .u64 (0),true⟩)]
theorem tt_mk : mkTT Try.prog ts = some tt := by kernel_rfl
instance facts : Facts := ⟨[],[],false⟩
instance val : Val := ⟨fun _=>0⟩
instance sound : Sound := ⟨fun f hf=>(List.not_mem_nil hf).elim⟩
theorem tt_ok : TTok Try.prog tt := ttok_mk tt_mk
def body (f : Func) : Code := match f.body with | some c=>c | none=>.skip
set_option maxRecDepth 100000
theorem wrap_nat (k : Nat) (h : k < 9223372036854775807) : IntKind.i64.wrap ((k : Int) + 1) = ((k + 1 : Nat) : Int) := by
 rw [IntKind.wrap_i64];omega
theorem wrapS (n : Int) (h : -9000000000000000000≤n∧n≤9000000000000000000) : IntKind.i64.wrap n = n := by rw [IntKind.wrap_i64];omega
def Cd (n : Int) : Prop := -1000000000≤n∧n≤1000000000
def Pl (n : Int) : Prop := 0≤n∧n≤4000
instance decCd (n : Int) : Decidable (Cd n) := inferInstanceAs (Decidable (_∧_))
instance decPl (n : Int) : Decidable (Pl n) := inferInstanceAs (Decidable (_∧_))
theorem rcoord_test (n : Int) (h : H) (K : V→H→Prop) (hK : K (.test (decide (Cd n))) h) : SemF Try.prog 56 [.int .i64 n] h K := by
 refine SemF.test ?_
 refine enter tt_ok Try.func56 (nt := 9) (cd := body Try.f56) rfl rfl rfl rfl ?_
 intro _;refine ⟨fun g=>?_,fun g=>?_⟩
 ·have g := of_decide_eq_true (show decide (n ≥ -1000000000) = true from g)
  intro _
  refine ⟨_,.inr rfl,?_⟩
  have : decide (Cd n) = decide (n≤1000000000) := by
   by_cases e : n≤1000000000
   ·rw [decide_eq_true e,decide_eq_true (show Cd n from ⟨by omega,e⟩)]
   ·rw [decide_eq_false e,decide_eq_false (fun m=>e m.2)]
  rw [← this];exact hK
 ·have g := of_decide_eq_false (show decide (n ≥ -1000000000) = false from g)
  intro _
  refine ⟨false,.inl rfl,?_⟩
  have : decide (Cd n) = false := decide_eq_false (fun m=>by have := m.1;omega)
  rw [← this];exact hK
theorem coord_test (n : Int) (h : H) (K : V→H→Prop) (hK : K (.test (decide (Cd n))) h) : SemF Try.prog 65 [.int .i64 n] h K := by
 refine SemF.test ?_
 refine enter tt_ok Try.func65 (nt := 9) (cd := body Try.f65) rfl rfl rfl rfl ?_
 intro _;refine ⟨fun g=>?_,fun g=>?_⟩
 ·have g := of_decide_eq_true (show decide (n ≥ -1000000000) = true from g)
  intro _
  refine ⟨_,.inr rfl,?_⟩
  have : decide (Cd n) = decide (n≤1000000000) := by
   by_cases e : n≤1000000000
   ·rw [decide_eq_true e,decide_eq_true (show Cd n from ⟨by omega,e⟩)]
   ·rw [decide_eq_false e,decide_eq_false (fun m=>e m.2)]
  rw [← this];exact hK
 ·have g := of_decide_eq_false (show decide (n ≥ -1000000000) = false from g)
  intro _
  refine ⟨false,.inl rfl,?_⟩
  have : decide (Cd n) = false := decide_eq_false (fun m=>by have := m.1;omega)
  rw [← this];exact hK
theorem place_test (n : Int) (h : H) (K : V→H→Prop) (hK : K (.test (decide (Pl n))) h) : SemF Try.prog 66 [.int .i64 n] h K := by
 refine SemF.test ?_
 refine enter tt_ok Try.func66 (nt := 9) (cd := body Try.f66) rfl rfl rfl rfl ?_
 intro _;refine ⟨fun g=>?_,fun g=>?_⟩
 ·have g := of_decide_eq_true (show decide (n ≥ 0) = true from g)
  intro _
  refine ⟨_,.inr rfl,?_⟩
  have : decide (Pl n) = decide (n≤4000) := by
   by_cases e : n≤4000
   ·rw [decide_eq_true e,decide_eq_true (show Pl n from ⟨by omega,e⟩)]
   ·rw [decide_eq_false e,decide_eq_false (fun m=>e m.2)]
  rw [← this];exact hK
 ·have g := of_decide_eq_false (show decide (n ≥ 0) = false from g)
  intro _
  refine ⟨false,.inl rfl,?_⟩
  have : decide (Pl n) = false := decide_eq_false (fun m=>by have := m.1;omega)
  rw [← this];exact hK
def Qv (a b d : Int) : Prop := (1≤d∧d≤16)∧Cd a∧Cd b
instance decQv (a b d : Int) : Decidable (Qv a b d) := inferInstanceAs (Decidable (_∧_))
abbrev QA (a b d : Int) : List V := [.int .i64 a,.int .i64 b,.int .i64 d]
theorem rvalid_ok (a b d : Int) : SemF Try.prog 55 [.agg (QA a b d)] ⟨0,0,[]⟩ (fun v _=>v = .test (decide (Qv a b d))∧nameless v = true) := by
 refine SemF.test ?_
 refine enter tt_ok Try.func55 (nt := 21) (cd := body Try.f55) rfl rfl rfl rfl ?_
 have no : ¬ Qv a b d→∃ x,(V.bool false = .bool x ∨ V.bool false = .test x)∧(V.test x = .test (decide (Qv a b d))∧nameless (V.test x) = true) := fun h=>⟨false,.inl rfl,by rw [decide_eq_false h],rfl⟩
 intro _;refine ⟨fun g=>?_,fun g=>?_⟩
 rotate_left
 ·have g := of_decide_eq_false (show decide (d ≥ 1) = false from g)
  intro _
  exact no (fun h=>by have := h.1.1;omega)
 have g1 := of_decide_eq_true (show decide (d ≥ 1) = true from g)
 intro _;refine ⟨fun g=>?_,fun g=>?_⟩
 rotate_left
 ·have g := of_decide_eq_false (show decide (d≤16) = false from g)
  intro _
  exact no (fun h=>by have := h.1.2;omega)
 have g2 := of_decide_eq_true (show decide (d≤16) = true from g)
 intro _
 refine rcoord_test _ _ _ ?_
 intro _;refine ⟨fun g=>?_,fun g=>?_⟩
 rotate_left
 ·have g := of_decide_eq_false (show decide (Cd a) = false from g)
  intro _
  exact no (fun h=>g h.2.1)
 have g3 := of_decide_eq_true (show decide (Cd a) = true from g)
 intro _
 refine rcoord_test _ _ _ ?_
 intro _
 refine ⟨_,.inr rfl,?_,rfl⟩
 have : decide (Qv a b d) = decide (Cd b) := by
  by_cases e : Cd b
  ·rw [decide_eq_true e,decide_eq_true (show Qv a b d from ⟨⟨by omega,g2⟩,g3,e⟩)]
  ·rw [decide_eq_false e,decide_eq_false (fun m : Qv a b d=>e m.2.2)]
 rw [this]
theorem valid_ok (a b d : Int) : SemF Try.prog 57 [.agg (QA a b d)] ⟨0,0,[]⟩ (fun v _=>v = .test (decide (Qv a b d))∧nameless v = true) := by
 refine SemF.test ?_
 refine enter tt_ok Try.func57 (nt := 21) (cd := body Try.f57) rfl rfl rfl rfl ?_
 have no : ¬ Qv a b d→∃ x,(V.bool false = .bool x ∨ V.bool false = .test x)∧(V.test x = .test (decide (Qv a b d))∧nameless (V.test x) = true) := fun h=>⟨false,.inl rfl,by rw [decide_eq_false h],rfl⟩
 intro _;refine ⟨fun g=>?_,fun g=>?_⟩
 rotate_left
 ·have g := of_decide_eq_false (show decide (d ≥ 1) = false from g)
  intro _
  exact no (fun h=>by have := h.1.1;omega)
 have g1 := of_decide_eq_true (show decide (d ≥ 1) = true from g)
 intro _;refine ⟨fun g=>?_,fun g=>?_⟩
 rotate_left
 ·have g := of_decide_eq_false (show decide (d≤16) = false from g)
  intro _
  exact no (fun h=>by have := h.1.2;omega)
 have g2 := of_decide_eq_true (show decide (d≤16) = true from g)
 intro _
 refine coord_test _ _ _ ?_
 intro _;refine ⟨fun g=>?_,fun g=>?_⟩
 rotate_left
 ·have g := of_decide_eq_false (show decide (Cd a) = false from g)
  intro _
  exact no (fun h=>g h.2.1)
 have g3 := of_decide_eq_true (show decide (Cd a) = true from g)
 intro _
 refine coord_test _ _ _ ?_
 intro _
 refine ⟨_,.inr rfl,?_,rfl⟩
 have : decide (Qv a b d) = decide (Cd b) := by
  by_cases e : Cd b
  ·rw [decide_eq_true e,decide_eq_true (show Qv a b d from ⟨⟨by omega,g2⟩,g3,e⟩)]
  ·rw [decide_eq_false e,decide_eq_false (fun m : Qv a b d=>e m.2.2)]
 rw [this]
def fl (n d : Int) : Int := if n.tmod d < 0 then n.tdiv d - 1 else n.tdiv d
theorem div_bd (n d : Int) (hd : 1≤d) (M : Int) (h : -M≤n∧n≤M) : -M≤n.tdiv d∧n.tdiv d≤M := by
 have h1 := Int.natAbs_tdiv_le_natAbs n d
 have : (n.tdiv d).natAbs≤n.natAbs := h1
 omega
theorem fl_spec (n d : Int) (hd : 1≤d) : d * fl n d≤n∧n < d * fl n d + d := by
 have h1 := Int.mul_tdiv_add_tmod n d
 have h2 : n.tmod d < d := Int.tmod_lt_of_pos n (by omega)
 have h3 : -d < n.tmod d := by
  have := Int.neg_tmod n d
  have h4 := Int.tmod_lt_of_pos (-n) (b := d) (by omega)
  rw [Int.neg_tmod] at h4
  omega
 unfold fl
 split
 ·rw [Int.mul_sub,Int.mul_one];omega
 ·omega
theorem fl_bd (n d : Int) (hd : 1≤d) (M : Int) (h : -M≤n∧n≤M) : -M - 1≤fl n d∧fl n d≤M := by
 have := div_bd n d hd M h
 unfold fl
 split <;> omega
theorem rfloor_ok (n d : Int) (hd : 1≤d) (hn : -1000000000000000≤n∧n≤1000000000000000) : SemF Try.prog 63 [.int .i64 n,.int .i64 d] ⟨0,0,[]⟩ (fun v _=>v = .int .i64 (fl n d)∧nameless v = true) := by
 have hb := div_bd n d hd _ hn
 have e1 : IntKind.i64.wrap (n.tdiv d) = n.tdiv d := wrapS _ ⟨by omega,by omega⟩
 have e2 : IntKind.i64.wrap (n.tdiv d - 1) = n.tdiv d - 1 := wrapS _ ⟨by omega,by omega⟩
 refine enter tt_ok Try.func63 (nt := 16) (cd := body Try.f63) rfl rfl rfl rfl ?_
 intro _;refine ⟨by omega,?_⟩
 intro _;refine ⟨by omega,?_⟩
 intro _;refine ⟨fun g=>?_,fun g=>?_⟩
 ·have g := of_decide_eq_true (show decide (n.tmod d < 0) = true from g)
  intro _
  refine ⟨?_,rfl⟩
  unfold fl;rw [if_pos g]
  show V.int .i64 (IntKind.i64.wrap (IntKind.i64.wrap (n.tdiv d) - 1)) = _
  rw [e1,e2]
 ·have g := of_decide_eq_false (show decide (n.tmod d < 0) = false from g)
  intro _
  refine ⟨?_,rfl⟩
  unfold fl;rw [if_neg g]
  show V.int .i64 (IntKind.i64.wrap (n.tdiv d)) = _
  rw [e1]
theorem floor_ok (n d : Int) (hd : 1≤d) (hn : -1000000000000000≤n∧n≤1000000000000000) : SemF Try.prog 67 [.int .i64 n,.int .i64 d] ⟨0,0,[]⟩ (fun v _=>v = .int .i64 (fl n d)∧nameless v = true) := by
 have hb := div_bd n d hd _ hn
 have e1 : IntKind.i64.wrap (n.tdiv d) = n.tdiv d := wrapS _ ⟨by omega,by omega⟩
 have e2 : IntKind.i64.wrap (n.tdiv d - 1) = n.tdiv d - 1 := wrapS _ ⟨by omega,by omega⟩
 refine enter tt_ok Try.func67 (nt := 16) (cd := body Try.f67) rfl rfl rfl rfl ?_
 intro _;refine ⟨by omega,?_⟩
 intro _;refine ⟨by omega,?_⟩
 intro _;refine ⟨fun g=>?_,fun g=>?_⟩
 ·have g := of_decide_eq_true (show decide (n.tmod d < 0) = true from g)
  intro _
  refine ⟨?_,rfl⟩
  unfold fl;rw [if_pos g]
  show V.int .i64 (IntKind.i64.wrap (IntKind.i64.wrap (n.tdiv d) - 1)) = _
  rw [e1,e2]
 ·have g := of_decide_eq_false (show decide (n.tmod d < 0) = false from g)
  intro _
  refine ⟨?_,rfl⟩
  unfold fl;rw [if_neg g]
  show V.int .i64 (IntKind.i64.wrap (n.tdiv d)) = _
  rw [e1]
abbrev qv (a b d n : Int) : Int := fl (a * n + b) d
theorem mul_bd {a n : Int} (ha : Cd a) (hn : 0≤n∧n≤4001) : -4001000000000≤a * n∧a * n≤4001000000000 := by
 have h1 : -1000000000 * n≤a * n := Int.mul_le_mul_of_nonneg_right ha.1 hn.1
 have h2 : a * n≤1000000000 * n := Int.mul_le_mul_of_nonneg_right ha.2 hn.1
 omega
theorem top_bd {a b n : Int} (ha : Cd a) (hb : Cd b) (hn : 0≤n∧n≤4001) : -4002000000000≤a * n + b∧a * n + b≤4002000000000 := by
 have := mul_bd ha hn
 have := hb.1;have := hb.2
 omega
theorem top_wrap {a b n : Int} (ha : Cd a) (hb : Cd b) (hn : 0≤n∧n≤4001) : IntKind.i64.wrap (IntKind.i64.wrap (a * n) + b) = a * n + b := by
 have h1 := mul_bd ha hn
 have h2 := top_bd ha hb hn
 rw [wrapS (a * n) ⟨by omega,by omega⟩,wrapS _ ⟨by omega,by omega⟩]
theorem value_ok (a b d n : Int) (h : Qv a b d) (hn : 0≤n∧n≤4001) : SemF Try.prog 52 [.agg (QA a b d),.int .i64 n] ⟨0,0,[]⟩ (fun v _=>v = .int .i64 (qv a b d n)∧nameless v = true) := by
 have hw := top_wrap h.2.1 h.2.2 hn
 have hb := top_bd h.2.1 h.2.2 hn
 refine enter tt_ok Try.func52 (nt := 15) (cd := body Try.f52) rfl rfl rfl rfl ?_
 intro _
 refine call_pure [] (rfloor_ok (a * n + b) d h.1.1 ⟨by omega,by omega⟩) rfl rfl rfl ?_ ?_ ?_
 ·and_intros<;>try first|exact trivial|exact rfl
 ·and_intros<;>try first|exact trivial|exact rfl
  exact hw.symm
 intro v hv _
 subst hv
 intro _
 exact ⟨rfl,rfl⟩
def atv (a b d n : Int) : V := if Qv a b d∧Pl n then .tup [.int .i64 (qv a b d n),.int .i64 0] else .tup [.int .i64 0,.int .i64 1]
theorem at_ok (a b d n : Int) : SemF Try.prog 59 [.agg (QA a b d),.int .i64 n] ⟨0,0,[]⟩ (fun v _=>v = atv a b d n∧nameless v = true) := by
 refine enter tt_ok Try.func59 (nt := 24) (cd := body Try.f59) rfl rfl rfl rfl ?_
 intro _
 refine call_pure [] (valid_ok a b d) rfl rfl rfl ?_ ?_ ?_
 ·and_intros<;>try first|exact trivial|exact rfl
 ·and_intros<;>try first|exact trivial|exact rfl
 intro v hv _
 subst hv
 intro _;refine ⟨fun g=>?_,fun g=>?_⟩
 ·have g : (!decide (Qv a b d)) = true := g
  rw [Bool.not_eq_true'] at g
  have g := of_decide_eq_false g
  intro _
  refine ⟨?_,rfl⟩
  unfold atv;rw [if_neg (fun h=>g h.1)]
 have g : (!decide (Qv a b d)) = false := g
 rw [Bool.not_eq_false'] at g
 have h := of_decide_eq_true g
 intro _
 refine place_test _ _ _ ?_
 intro _;refine ⟨fun g=>?_,fun g=>?_⟩
 ·have g : (!decide (Pl n)) = true := g
  rw [Bool.not_eq_true'] at g
  have g := of_decide_eq_false g
  intro _
  refine ⟨?_,rfl⟩
  unfold atv;rw [if_neg (fun h=>g h.2)]
 have g : (!decide (Pl n)) = false := g
 rw [Bool.not_eq_false'] at g
 have hp := of_decide_eq_true g
 have hn : 0≤n∧n≤4001 := ⟨hp.1,by have := hp.2;omega⟩
 have hw := top_wrap h.2.1 h.2.2 hn
 have hb := top_bd h.2.1 h.2.2 hn
 intro _
 refine call_pure [] (floor_ok (a * n + b) d h.1.1 ⟨by omega,by omega⟩) rfl rfl rfl ?_ ?_ ?_
 ·and_intros<;>try first|exact trivial|exact rfl
 ·and_intros<;>try first|exact trivial|exact rfl
  exact hw.symm
 intro v hv _
 subst hv
 intro _
 refine ⟨?_,rfl⟩
 unfold atv;rw [if_pos ⟨h,hp⟩]
theorem kk_wrap (x : Int) (h : -1000000000≤x∧x≤1000000000) : IntKind.i64.wrap (0 - x) = -x := by rw [wrapS _ ⟨by omega,by omega⟩];omega
abbrev DA (l : List Int) : List (Nat × Ob) := [(0,.arr [.int .i64] .grow (.ints l))]
def Dat (l : List Int) (h : H) : Prop := Go.Vm2.look h.l 0 = some (.arr [.int .i64] .grow (.ints l))
def raw (l : List Int) (i : Nat) : Int := l.getD i 0
def Kx (x : Int) : Int := 2 * max x (-x) + (if 0 < x then 1 else 0)
def at' (l : List Int) (i : Nat) : Int := Kx (raw l i)
def nr (x y : Int) : Int := if Kx x < Kx y then -1 else if Kx y < Kx x then 1 else 0
theorem nr_lt {x y : Int} : nr x y < 0 ↔ Kx x < Kx y := by
 unfold nr
 split
 ·rename_i h;exact ⟨fun _=>h,fun _=>by decide⟩
 ·rename_i h
  split
  ·exact ⟨fun q=>absurd q (by decide),fun q=>absurd q h⟩
  ·exact ⟨fun q=>absurd q (by decide),fun q=>absurd q h⟩
def Bd (l : List Int) : Prop := ∀ v ∈ l,-1000000000≤v∧v≤1000000000
theorem Bd.at {l : List Int} (h : Bd l) (k : Nat) : -1000000000≤raw l k∧raw l k≤1000000000 := by
 unfold raw
 rw [List.getD_eq_getElem?_getD]
 by_cases e : k < l.length
 ·rw [List.getElem?_eq_getElem e];exact h _ (List.getElem_mem e)
 ·rw [List.getElem?_eq_none (by omega)];exact ⟨by decide,by decide⟩
def sw (l : List Int) (i j : Nat) : List Int := (l.set i (raw l j)).set j (raw l i)
structure Pm (a b : Nat) (l l' : List Int) : Prop where
 len : l'.length = l.length
 perm : l'.Perm l
 outr : ∀ i,(i < a ∨ b≤i)→raw l' i = raw l i
theorem Pm.out {a b : Nat} {l l' : List Int} (h : Pm a b l l') (i : Nat) (hi : i < a ∨ b≤i) : at' l' i = at' l i := congrArg Kx (h.outr i hi)
theorem Pm.bd {a b : Nat} {l l' : List Int} (h : Pm a b l l') (hB : Bd l) : Bd l' := fun v hv=>hB v (h.perm.mem_iff.1 hv)
theorem Pm.refl (a b : Nat) (l : List Int) : Pm a b l l := ⟨rfl,List.Perm.refl _,fun _ _=>rfl⟩
theorem Pm.trans {a b : Nat} {l l' l'' : List Int} (h : Pm a b l l') (k : Pm a b l' l'') : Pm a b l l'' := ⟨k.len.trans h.len,k.perm.trans h.perm,fun i hi=>(k.outr i hi).trans (h.outr i hi)⟩
theorem Pm.wide {a b a' b' : Nat} {l l' : List Int} (h : Pm a b l l') (ha : a'≤a) (hb : b≤b') : Pm a' b' l l' := ⟨h.len,h.perm,fun i hi=>h.outr i (by omega)⟩
theorem raw_set {l : List Int} {i : Nat} {v : Int} (h : i < l.length) (k : Nat) : raw (l.set i v) k = if i = k then v else raw l k := by
 unfold raw
 rw [List.getD_eq_getElem?_getD,List.getD_eq_getElem?_getD,List.getElem?_set]
 by_cases e : i = k
 ·subst e;rw [if_pos rfl,if_pos rfl,if_pos h];rfl
 ·rw [if_neg e,if_neg e]
theorem sw_len (l : List Int) (i j : Nat) : (sw l i j).length = l.length := by unfold sw;simp
theorem raw_sw {l : List Int} {i j : Nat} (hi : i < l.length) (hj : j < l.length) (k : Nat) : raw (sw l i j) k = if j = k then raw l i else if i = k then raw l j else raw l k := by
 unfold sw
 rw [raw_set (by simpa using hj),raw_set hi]
theorem at_sw {l : List Int} {i j : Nat} (hi : i < l.length) (hj : j < l.length) (k : Nat) : at' (sw l i j) k = if j = k then at' l i else if i = k then at' l j else at' l k := by
 unfold at'
 rw [raw_sw hi hj]
 split
 ·rfl
 ·split <;> rfl
theorem sw_perm {l : List Int} {i j : Nat} (hi : i < l.length) (hj : j < l.length) : (sw l i j).Perm l := by
 unfold sw raw
 rw [List.getD_eq_getElem?_getD,List.getD_eq_getElem?_getD,List.getElem?_eq_getElem hi,List.getElem?_eq_getElem hj]
 show ((l.set i l[j]).set j l[i]).Perm l
 by_cases e : i = j
 ·subst e;simp
 ·exact List.set_set_perm hi hj
theorem sw_pm {l : List Int} {i j a b : Nat} (hi : a≤i∧i < b) (hj : a≤j∧j < b) (hb : b≤l.length) : Pm a b l (sw l i j) :=
 ⟨sw_len l i j,sw_perm (by omega) (by omega),fun k hk=>by rw [raw_sw (by omega) (by omega),if_neg (by omega),if_neg (by omega)]⟩
theorem nan_ok (n : Int) : SemF Try.prog 80 [.int .i64 n] ⟨0,0,[]⟩ (fun v _=>v = .test false∧nameless v = true) := by
 refine enter tt_ok Try.func80 (nt := 6) (cd := body Try.f80) rfl rfl rfl rfl ?_
 intro _
 exact ⟨by show V.test (n != n) = .test false;simp,rfl⟩
def cm (x y : Int) : Int := if x < y then -1 else if x > y then 1 else 0
theorem compare_ok (x y : Int) : SemF Try.prog 76 [.int .i64 x,.int .i64 y] ⟨0,0,[]⟩ (fun v _=>v = .int .i64 (cm x y)∧nameless v = true) := by
 refine enter tt_ok Try.func76 (nt := 20) (cd := body Try.f76) rfl rfl rfl rfl ?_
 intro _
 refine call_pure [] (nan_ok x) rfl rfl rfl ?_ ?_ ?_
 ·and_intros<;>try first|exact trivial|exact rfl
 ·and_intros<;>try first|exact trivial|exact rfl
 intro v hv _
 subst hv
 intro _
 refine call_pure [] (nan_ok y) rfl rfl rfl ?_ ?_ ?_
 ·and_intros<;>try first|exact trivial|exact rfl
 ·and_intros<;>try first|exact trivial|exact rfl
 intro v hv _
 subst hv
 intro _;refine ⟨fun g=>?_,fun g=>?_⟩
 ·cases (show false = true from g)
 intro _;refine ⟨fun g=>?_,fun g=>?_⟩
 ·cases (show false = true from g)
 intro _;refine ⟨fun g=>?_,fun g=>?_⟩
 ·have g := of_decide_eq_true (show decide (x < y) = true from g)
  intro _
  exact ⟨by unfold cm;rw [if_pos g],rfl⟩
 have g1 := of_decide_eq_false (show decide (x < y) = false from g)
 intro _;refine ⟨fun g=>?_,fun g=>?_⟩
 ·have g := of_decide_eq_true (show decide (x > y) = true from g)
  intro _
  exact ⟨by unfold cm;rw [if_neg g1,if_pos g],rfl⟩
 have g := of_decide_eq_false (show decide (x > y) = false from g)
 intro _
 exact ⟨by unfold cm;rw [if_neg g1,if_neg g],rfl⟩
def orr (x y : Int) : Int := if x ≠ 0 then x else y
theorem or_ok (x y : Int) : SemF Try.prog 75 [.slc 0 1 0 2] ⟨1,1,[(0,.arr [.int .i64] .rd (.ints [x,y]))]⟩ (fun v _=>v = .int .i64 (orr x y)∧nameless v = true) := by
 refine enter tt_ok Try.func75 (nt := 18) (cd := body Try.f75) rfl rfl rfl rfl ?_
 intro _
 refine loop_step tt_ok ?_
 intro _;refine ⟨fun _=>?_,fun g=>absurd g (by decide)⟩
 intro _;refine ⟨by decide,?_⟩
 intro _;refine ⟨show (0 + (0 : Int).toNat : Nat) < 2 by decide,?_⟩
 intro _;refine ⟨fun g=>?_,fun g=>?_⟩
 ·have g := bne_iff_ne.1 (show (x != 0) = true from g)
  intro _
  exact ⟨by unfold orr;rw [if_pos g];rfl,rfl⟩
 have g : (x != 0) = false := g
 have g1 : ¬ x ≠ 0 := fun h=>by rw [bne_iff_ne.2 h] at g;cases g
 intro _
 refine loop_step tt_ok ?_
 intro _;refine ⟨fun _=>?_,fun g=>absurd g (by decide)⟩
 intro _;refine ⟨by decide,?_⟩
 intro _;refine ⟨show (0 + (IntKind.i64.wrap (0 + 1)).toNat : Nat) < 2 by decide,?_⟩
 intro _;refine ⟨fun g=>?_,fun g=>?_⟩
 ·intro _
  exact ⟨by unfold orr;rw [if_neg g1];rfl,rfl⟩
 have g : (y != 0) = false := g
 have g2 : y = 0 := by
  by_cases h : y = 0
  ·exact h
  ·rw [bne_iff_ne.2 h] at g;cases g
 intro _
 refine loop_step tt_ok ?_
 intro _;refine ⟨fun g=>absurd g (by decide),fun _=>?_⟩
 intro _
 exact ⟨by unfold orr;rw [if_neg g1,g2],rfl⟩
theorem nr_eq (x y : Int) : orr (cm (max x (-x)) (max y (-y))) (cm x y) = nr x y := by
 unfold orr cm nr Kx
 repeat' split
 all_goals omega
theorem less_ok (x y : Int) (hx : -1000000000≤x∧x≤1000000000) (hy : -1000000000≤y∧y≤1000000000) : SemF Try.prog 74 [.int .i64 x,.int .i64 y] ⟨0,0,[]⟩ (fun v _=>v = .int .i64 (nr x y)∧nameless v = true) := by
 refine enter tt_ok Try.func74 (nt := 19) (cd := body Try.f74) rfl rfl rfl rfl ?_
 intro _
 refine call_pure [] (compare_ok (max x (-x)) (max y (-y))) rfl rfl rfl ?_ ?_ ?_
 ·and_intros<;>try first|exact trivial|exact rfl
 ·and_intros<;>try first|exact trivial|exact rfl
  show max x (-x) = max x (IntKind.i64.wrap (0 - x))
  rw [kk_wrap x hx]
  show max y (-y) = max y (IntKind.i64.wrap (0 - y))
  rw [kk_wrap y hy]
 intro v hv _
 subst hv
 intro _
 refine call_pure [] (compare_ok x y) rfl rfl rfl ?_ ?_ ?_
 ·and_intros<;>try first|exact trivial|exact rfl
 ·and_intros<;>try first|exact trivial|exact rfl
 intro v hv _
 subst hv
 intro _
 refine call_pure [(0,some 0)] (or_ok (cm (max x (-x)) (max y (-y))) (cm x y)) rfl rfl rfl ?_ ?_ ?_
 ·and_intros<;>try first|exact trivial|exact rfl
 ·and_intros<;>try first|exact trivial|exact rfl
 intro v hv _
 subst hv
 intro _
 rw [nr_eq]
 exact ⟨rfl,rfl⟩
set_option maxHeartbeats 2000000 in
theorem rev_ok (l : List Int) (hB_l : Bd l) (a b : Nat) (hab : a≤b) (hb : b≤l.length) (hl : l.length≤4096) : SemF Try.prog 90 [.grw 0 l.length,.int .i64 a,.int .i64 b,.fn 74 [] []] ⟨1,0,DA l⟩ (fun v h'=>∃ l',Pm a b l l'∧v = .tup []∧Dat l' h') := by
 refine enter tt_ok Try.func90 (nt := 34) (cd := body Try.f90) rfl rfl rfl rfl ?_
 intro _
 refine loop2 tt_ok [8,9] [0] 1 (fun x : { x : Nat × List Int // x.1≤b - a∧Pm a b l x.2 }=>[(8,.int .i64 ((a + x.1.1 : Nat) : Int)),(9,.int .i64 ((b : Int) - 1 - x.1.1))]) (fun x=>DA x.1.2) (fun x=>b - a - x.1.1) ⟨(0,l),by omega,Pm.refl a b l⟩ ?_
 intro _
 refine ⟨⟨th [] 1,rfl,rfl,rfl,rfl,rfl,rfl,?_,?_⟩,?_⟩
 ·and_intros<;>try first|exact trivial|exact rfl
  show (b : Int) - 1 - ((0 : Nat) : Int) = IntKind.i64.wrap ((b : Int) - 1)
  rw [wrapS _ ⟨by omega,by omega⟩];omega
 ·and_intros<;>try first|exact trivial|exact rfl
 intro ⟨⟨k,c⟩,hk,hc⟩
 have hcl : c.length = l.length := hc.len
 have hB_c : Bd c := hc.bd hB_l
 have hk : k≤b - a := hk
 intro _;refine ⟨fun g=>?_,fun g=>?_⟩
 rotate_left
 ·intro _
  exact ⟨c,hc,rfl,rfl⟩
 have g := of_decide_eq_true (show decide (((a + k : Nat) : Int) < (b : Int) - 1 - k) = true from g)
 have i1 : 0≤(b : Int) - 1 - k∧(b : Int) - 1 - k < (l.length : Int) := by omega
 have i2 : 0≤((a + k : Nat) : Int)∧((a + k : Nat) : Int) < (l.length : Int) := by omega
 have j1 : ((b : Int) - 1 - k).toNat < c.length := by omega
 have j2 : ((a + k : Nat) : Int).toNat < c.length := by omega
 intro _;refine ⟨i1,?_⟩
 intro _;refine ⟨j1,?_⟩
 intro _;refine ⟨i2,?_⟩
 intro _;refine ⟨j2,?_⟩
 intro _;refine ⟨i2,?_⟩
 intro _;refine ⟨j2,?_⟩
 intro _;refine ⟨i1,?_⟩
 intro _;refine ⟨show ((b : Int) - 1 - k).toNat < (c.set _ _).length by rw [List.length_set];exact j1,?_⟩
 intro _;refine ⟨by kernel_rfl,?_⟩
 have n1 : ((b : Int) - 1 - k).toNat = b - 1 - k := by omega
 have n2 : ((a + k : Nat) : Int).toNat = a + k := by omega
 have hs : Pm a b c (sw c (a + k) (b - 1 - k)) := sw_pm ⟨by omega,by omega⟩ ⟨by omega,by omega⟩ (by rw [hcl];exact hb)
 refine ⟨⟨(k + 1,sw c (a + k) (b - 1 - k)),by show k + 1≤b - a;omega,hc.trans hs⟩,by show b - a - (k + 1) < b - a - k;omega,th [] 1,rfl,rfl,rfl,rfl,rfl,rfl,?_,?_⟩
 ·and_intros<;>try first|exact trivial|exact rfl
  ·show ((a + (k + 1) : Nat) : Int) = IntKind.i64.wrap (((a + k : Nat) : Int) + 1)
   rw [wrapS _ ⟨by omega,by omega⟩];omega
  ·show (b : Int) - 1 - ((k + 1 : Nat) : Int) = IntKind.i64.wrap ((b : Int) - 1 - (k : Int) - 1)
   rw [wrapS _ ⟨by omega,by omega⟩];omega
 ·and_intros<;>try first|exact trivial|exact rfl
  show sw c (a + k) (b - 1 - k) = (c.set ((a + k : Nat) : Int).toNat (c.getD ((b : Int) - 1 - k).toNat 0)).set ((b : Int) - 1 - k).toNat (c.getD ((a + k : Nat) : Int).toNat 0)
  rw [n1,n2];rfl
def Srt (l : List Int) (a b : Nat) : Prop := ∀ p q,a≤p→p < q→q < b→at' l p≤at' l q
def Ins (l : List Int) (a i j : Nat) : Prop := ∀ p q,a≤p→p < q→q≤i→q ≠ j→at' l p≤at' l q
theorem Srt.ins {l : List Int} {a i : Nat} (h : Srt l a i) : Ins l a i i := fun p q h1 h2 h3 h4=>h p q h1 h2 (by omega)
theorem Ins.done {l : List Int} {a i j : Nat} (h : Ins l a i j) (hd : j≤a ∨ at' l (j - 1)≤at' l j) : Srt l a (i + 1) := fun p q h1 h2 h3=>by
 by_cases e : q = j
 ·subst e
  rcases hd with g | g
  ·omega
  ·by_cases e2 : p = q - 1
   ·subst e2;exact g
   ·have := h p (q - 1) h1 (by omega) (by omega) (by omega)
    omega
 ·exact h p q h1 h2 (by omega) e
theorem Ins.step {l : List Int} {a i j : Nat} (h : Ins l a i j) (ha : a < j) (hi : j≤i) (hl : i < l.length) (g : at' l j < at' l (j - 1)) : Ins (sw l j (j - 1)) a i (j - 1) := fun p q h1 h2 h3 h4=>by
 have A : ∀ k,at' (sw l j (j - 1)) k = if j - 1 = k then at' l j else if j = k then at' l (j - 1) else at' l k := fun k=>at_sw (by omega) (by omega) k
 rw [A,A]
 by_cases e1 : q = j
 ·subst e1
  rw [if_neg (show ¬ (q - 1 = q) by omega),if_pos rfl]
  by_cases e2 : q - 1 = p
  ·rw [if_pos e2];omega
  ·rw [if_neg e2,if_neg (by omega)]
   exact h p (q - 1) h1 (by omega) (by omega) (by omega)
 ·rw [if_neg (show ¬ (j - 1 = q) by omega),if_neg (show ¬ (j = q) by omega)]
  by_cases e2 : j - 1 = p
  ·rw [if_pos e2]
   exact h j q (by omega) (by omega) h3 e1
  ·rw [if_neg e2]
   by_cases e3 : j = p
   ·rw [if_pos e3];exact h (j - 1) q (by omega) (by omega) h3 (by omega)
   ·rw [if_neg e3];exact h p q h1 h2 h3 e1
set_option maxHeartbeats 2000000 in
theorem ins_ok (l : List Int) (hB_l : Bd l) (a b : Nat) (hab : a≤b) (hb : b≤l.length) (hl : l.length≤4096) : SemF Try.prog 86 [.grw 0 l.length,.int .i64 a,.int .i64 b,.fn 74 [] []] ⟨1,0,DA l⟩ (fun v h'=>∃ l',(Pm a b l l'∧Srt l' a b)∧v = .tup []∧Dat l' h') := by
 refine enter tt_ok Try.func86 (nt := 53) (cd := body Try.f86) rfl rfl rfl rfl ?_
 intro _
 refine loop2 tt_ok [8] [0] 1 (fun x : { x : Nat × List Int // (x.1≤b ∨ x.1 = a + 1)∧a + 1≤x.1∧Pm a b l x.2∧Srt x.2 a x.1 }=>[(8,.int .i64 (x.1.1 : Nat))]) (fun x=>DA x.1.2) (fun x=>b - x.1.1) ⟨(a + 1,l),.inr rfl,Nat.le_refl _,Pm.refl a b l,fun p q h1 h2 h3=>by omega⟩ ?_
 intro _
 refine ⟨⟨th [] 1,rfl,rfl,rfl,rfl,rfl,rfl,?_,?_⟩,?_⟩
 ·and_intros<;>try first|exact trivial|exact rfl
  show ((a + 1 : Nat) : Int) = IntKind.i64.wrap ((a : Int) + 1)
  rw [wrapS _ ⟨by omega,by omega⟩];omega
 ·and_intros<;>try first|exact trivial|exact rfl
 intro ⟨⟨i,c⟩,hi,hai,hc,hs⟩
 have hcl : c.length = l.length := hc.len
 have hB_c : Bd c := hc.bd hB_l
 have hi : i≤b ∨ i = a + 1 := hi
 have hai : a + 1≤i := hai
 have hs : Srt c a i := hs
 intro _;refine ⟨fun g=>?_,fun g=>?_⟩
 rotate_left
 ·have g := of_decide_eq_false (show decide ((i : Int) < (b : Int)) = false from g)
  intro _
  exact ⟨c,⟨hc,fun p q h1 h2 h3=>hs p q h1 h2 (by omega)⟩,rfl,rfl⟩
 have g := of_decide_eq_true (show decide ((i : Int) < (b : Int)) = true from g)
 intro _
 refine loop2 tt_ok [9] [0] 1 (fun x : { x : Nat × List Int // a≤x.1∧x.1≤i∧Pm a b l x.2∧Ins x.2 a i x.1 }=>[(9,.int .i64 (x.1.1 : Nat))]) (fun x=>DA x.1.2) (fun x=>x.1.1) ⟨(i,c),by show a≤i;omega,Nat.le_refl _,hc,hs.ins⟩ ?_
 intro _
 refine ⟨⟨th [] 1,rfl,rfl,rfl,rfl,rfl,rfl,?_,?_⟩,?_⟩
 ·and_intros<;>try first|exact trivial|exact rfl
 ·and_intros<;>try first|exact trivial|exact rfl
 intro ⟨⟨j,d⟩,hja,hji,hd,hins⟩
 have hdl : d.length = l.length := hd.len
 have hB_d : Bd d := hd.bd hB_l
 have hja : a≤j := hja
 have hji : j≤i := hji
 have hins : Ins d a i j := hins
 have fin : (j≤a ∨ at' d (j - 1)≤at' d j)→Srt d a (i + 1) := hins.done
 intro _;refine ⟨fun g=>?_,fun g=>?_⟩
 rotate_left
 ·have g2 := of_decide_eq_false (show decide ((j : Int) > (a : Int)) = false from g)
  intro _;refine ⟨by kernel_rfl,?_⟩
  refine ⟨⟨(i + 1,d),.inl (by show i + 1≤b;omega),by show a + 1≤i + 1;omega,hd,fin (.inl (by omega))⟩,by show b - (i + 1) < b - i;omega,th [] 1,rfl,rfl,rfl,rfl,rfl,rfl,?_,?_⟩
  ·and_intros<;>try first|exact trivial|exact rfl
   show ((i + 1 : Nat) : Int) = IntKind.i64.wrap ((i : Int) + 1)
   rw [wrapS _ ⟨by omega,by omega⟩];omega
  ·and_intros<;>try first|exact trivial|exact rfl
 have g2 := of_decide_eq_true (show decide ((j : Int) > (a : Int)) = true from g)
 have ej : IntKind.i64.wrap ((j : Int) - 1) = (j : Int) - 1 := wrapS _ ⟨by omega,by omega⟩
 have n1 : (IntKind.i64.wrap ((j : Int) - 1)).toNat = j - 1 := by rw [ej];omega
 have i1 : 0≤(j : Int)∧(j : Int) < (l.length : Int) := by omega
 have i2 : 0≤IntKind.i64.wrap ((j : Int) - 1)∧IntKind.i64.wrap ((j : Int) - 1) < (l.length : Int) := by rw [ej];omega
 have j1 : ((j : Int)).toNat < d.length := by omega
 have j2 : (IntKind.i64.wrap ((j : Int) - 1)).toNat < d.length := by rw [n1];omega
 intro _;refine ⟨i1,?_⟩
 intro _;refine ⟨j1,?_⟩
 intro _;refine ⟨i2,?_⟩
 intro _;refine ⟨j2,?_⟩
 intro _
 refine Or.inl ?_
 intro _
 refine call_pure [] (less_ok (raw d j) (raw d (j - 1)) (hB_d.at _) (hB_d.at _)) rfl rfl rfl ?_ ?_ ?_
 ·and_intros<;>try first|exact trivial|exact rfl
 ·and_intros<;>try first|exact trivial|exact rfl
  show raw d (j - 1) = d.getD (IntKind.i64.wrap ((j : Int) - 1)).toNat 0
  rw [n1];rfl
 intro v hv _
 subst hv
 intro _;refine ⟨by kernel_rfl,?_⟩
 intro _;refine ⟨fun g=>?_,fun g=>?_⟩
 rotate_left
 ·have g3 : ¬ at' d j < at' d (j - 1) := fun q=>absurd (nr_lt.2 q) (of_decide_eq_false (show decide (nr (raw d j) (raw d (j - 1)) < 0) = false from g))
  refine ⟨⟨(i + 1,d),.inl (by show i + 1≤b;omega),by show a + 1≤i + 1;omega,hd,fin (.inr (by omega))⟩,by show b - (i + 1) < b - i;omega,th [] 1,rfl,rfl,rfl,rfl,rfl,rfl,?_,?_⟩
  ·and_intros<;>try first|exact trivial|exact rfl
   show ((i + 1 : Nat) : Int) = IntKind.i64.wrap ((i : Int) + 1)
   rw [wrapS _ ⟨by omega,by omega⟩];omega
  ·and_intros<;>try first|exact trivial|exact rfl
 have g3 : at' d j < at' d (j - 1) := nr_lt.1 (of_decide_eq_true (show decide (nr (raw d j) (raw d (j - 1)) < 0) = true from g))
 intro _;refine ⟨i2,?_⟩
 intro _;refine ⟨j2,?_⟩
 intro _;refine ⟨i1,?_⟩
 intro _;refine ⟨j1,?_⟩
 intro _;refine ⟨i1,?_⟩
 intro _;refine ⟨j1,?_⟩
 intro _;refine ⟨i2,?_⟩
 intro _;refine ⟨show (IntKind.i64.wrap ((j : Int) - 1)).toNat < (d.set _ _).length by rw [List.length_set];exact j2,?_⟩
 intro _;refine ⟨by kernel_rfl,?_⟩
 have hsw : Pm a b d (sw d j (j - 1)) := sw_pm ⟨by omega,by omega⟩ ⟨by omega,by omega⟩ (by rw [hdl];exact hb)
 refine ⟨⟨(j - 1,sw d j (j - 1)),by show a≤j - 1;omega,by show j - 1≤i;omega,hd.trans hsw,hins.step (by omega) hji (by omega) g3⟩,by show j - 1 < j;omega,th [] 1,rfl,rfl,rfl,rfl,rfl,rfl,?_,?_⟩
 ·and_intros<;>try first|exact trivial|exact rfl
  show ((j - 1 : Nat) : Int) = IntKind.i64.wrap ((j : Int) - 1)
  rw [ej];omega
 ·and_intros<;>try first|exact trivial|exact rfl
  show sw d j (j - 1) = (d.set ((j : Int)).toNat (d.getD (IntKind.i64.wrap ((j : Int) - 1)).toNat 0)).set (IntKind.i64.wrap ((j : Int) - 1)).toNat (d.getD ((j : Int)).toNat 0)
  rw [n1];rfl
structure PI (a b : Nat) (pv e : Int) (c : List Int) (i j : Nat) : Prop where
 pa : at' c a = pv
 ai : a < i
 ij : i≤j + 1
 jb : j < b
 left : ∀ k,a < k→k < i→at' c k < pv + e
 right : ∀ k,j < k→k < b→pv + e≤at' c k
section
variable {a b : Nat} {pv e : Int} {c : List Int} {i j : Nat}
theorem PI.start (h : a < b) : PI a b (at' c a) e c (a + 1) (b - 1) := ⟨rfl,by omega,by omega,by omega,fun k h1 h2=>by omega,fun k h1 h2=>by omega⟩
theorem PI.up (h : PI a b pv e c i j) (hij : i≤j) (g : at' c i < pv + e) : PI a b pv e c (i + 1) j :=
 ⟨h.pa,by have := h.ai;omega,by omega,h.jb,fun k h1 h2=>by by_cases e : k = i;(subst e;exact g);exact h.left k h1 (by omega),h.right⟩
theorem PI.down (h : PI a b pv e c i j) (hij : i≤j) (g : pv + e≤at' c j) : PI a b pv e c i (j - 1) := by
 have := h.ai
 have := h.jb
 refine ⟨h.pa,h.ai,by omega,by omega,h.left,fun k h1 h2=>?_⟩
 by_cases e : k = j
 ·subst e;exact g
 ·exact h.right k (by omega) h2
theorem PI.swap (h : PI a b pv e c i j) (hb : b≤c.length) (hij : i≤j) (g1 : pv + e≤at' c i) (g2 : at' c j < pv + e) : PI a b pv e (sw c i j) (i + 1) (j - 1) := by
 have h1 := h.ai
 have h2 := h.jb
 have hne : i ≠ j := fun e=>by subst e;omega
 have A : ∀ k,at' (sw c i j) k = if j = k then at' c i else if i = k then at' c j else at' c k := fun k=>at_sw (by omega) (by omega) k
 refine ⟨by rw [A,if_neg (by omega),if_neg (by omega)];exact h.pa,by omega,by omega,by omega,fun k k1 k2=>?_,fun k k1 k2=>?_⟩
 ·rw [A,if_neg (by omega)]
  by_cases e : i = k
  ·rw [if_pos e];exact g2
  ·rw [if_neg e];exact h.left k k1 (by omega)
 ·rw [A]
  by_cases e : j = k
  ·rw [if_pos e];exact g1
  ·rw [if_neg e,if_neg (by omega)];exact h.right k (by omega) k2
structure Pt (a b m : Nat) (c : List Int) : Prop where
 am : a≤m
 mb : m < b
 left : ∀ k,a≤k→k < m→at' c k≤at' c m
 right : ∀ k,m < k→k < b→at' c m≤at' c k
theorem PI.fin (h : PI a b pv 0 c i j) (hb : b≤c.length) (hij : j < i) : Pt a b j (sw c j a) := by
 have h1 := h.ai
 have h2 := h.jb
 have h3 := h.ij
 have A : ∀ k,at' (sw c j a) k = if a = k then at' c j else if j = k then at' c a else at' c k := fun k=>at_sw (by omega) (by omega) k
 have hp := h.pa
 have hm : at' (sw c j a) j = pv := by
  rw [A]
  by_cases e : a = j
  ·rw [if_pos e,← e];exact hp
  ·rw [if_neg e,if_pos rfl];exact hp
 refine ⟨by omega,h2,fun k k1 k2=>?_,fun k k1 k2=>?_⟩
 ·rw [hm,A]
  by_cases e : a = k
  ·rw [if_pos e];have := h.left j (by omega) (by omega);omega
  ·rw [if_neg e,if_neg (by omega)];have := h.left k (by omega) (by omega);omega
 ·rw [hm,A,if_neg (by omega),if_neg (by omega)]
  have := h.right k k1 k2;omega
end
set_option maxHeartbeats 2000000 in
theorem part_ok (l : List Int) (hB_l : Bd l) (a b p : Nat) (hab : a < b) (hb : b≤l.length) (hl : l.length≤4096) (hp : a≤p∧p < b) : SemF Try.prog 93 [.grw 0 l.length,.int .i64 a,.int .i64 b,.int .i64 p,.fn 74 [] []] ⟨1,0,DA l⟩ (fun v h'=>∃ l' m q,(Pm a b l l'∧Pt a b m l')∧v = .tup [.int .i64 (m : Nat),.bool q]∧Dat l' h') := by
 refine enter tt_ok Try.func93 (nt := 178) (cd := body Try.f93) rfl rfl rfl rfl ?_
 intro _;refine ⟨(show 0≤((p : Nat) : Int)∧((p : Nat) : Int) < (l.length : Int) by omega),?_⟩
 intro _;refine ⟨(show ((p : Nat) : Int).toNat < l.length by omega),?_⟩
 intro _;refine ⟨(show 0≤((a : Nat) : Int)∧((a : Nat) : Int) < (l.length : Int) by omega),?_⟩
 intro _;refine ⟨(show ((a : Nat) : Int).toNat < l.length by omega),?_⟩
 intro _;refine ⟨(show 0≤((a : Nat) : Int)∧((a : Nat) : Int) < (l.length : Int) by omega),?_⟩
 intro _;refine ⟨(show ((a : Nat) : Int).toNat < l.length by omega),?_⟩
 intro _;refine ⟨(show 0≤((p : Nat) : Int)∧((p : Nat) : Int) < (l.length : Int) by omega),?_⟩
 intro _;refine ⟨(show ((p : Nat) : Int).toNat < (l.set _ _).length by rw [List.length_set];omega),?_⟩
 intro _;refine ⟨by kernel_rfl,?_⟩
 obtain ⟨c,hc⟩ : ∃ c,c = sw l a p := ⟨_,rfl⟩
 have hsc : (l.set ((a : Nat) : Int).toNat (l.getD ((p : Nat) : Int).toNat 0)).set ((p : Nat) : Int).toNat (l.getD ((a : Nat) : Int).toNat 0) = c := hc.symm
 have hPm : Pm a b l c := by rw [hc];exact sw_pm ⟨by omega,by omega⟩ ⟨by omega,by omega⟩ hb
 have hcl : c.length = l.length := hPm.len
 have hB_c : Bd c := hPm.bd hB_l
 obtain ⟨pv,hpv⟩ : ∃ pv,pv = at' c a := ⟨_,rfl⟩
 have hP0 : PI a b pv 0 c (a + 1) (b - 1) := by rw [hpv];exact PI.start hab
 obtain ⟨i,hi⟩ : ∃ i,i = a + 1 := ⟨_,rfl⟩
 obtain ⟨j,hj⟩ : ∃ j,j = b - 1 := ⟨_,rfl⟩
 have hP : PI a b pv 0 c i j := by rw [hi,hj];exact hP0
 intro _
 refine meet2 [12,13] [0] 1 (.exit 0) (fun x : { x : Nat // PI a b pv 0 c x j∧(j < x ∨ pv + 0≤at' c x)∧i≤x }=>[(12,.int .i64 (x.1 : Nat)),(13,.int .i64 (j : Nat))]) (fun _=>DA c) ?_
 intro _
 refine ⟨?_,fun ⟨i2,hP2,hx,hii⟩=>?_⟩
 ·refine loop2 tt_ok [12,13] [0] 1 (fun x : { x : Nat // PI a b pv 0 c x j∧i≤x }=>[(12,.int .i64 (x.1 : Nat)),(13,.int .i64 (j : Nat))]) (fun _=>DA c) (fun x=>b - x.1) ⟨i,hP,Nat.le_refl _⟩ ?_
  intro _
  refine ⟨⟨th [] 1,rfl,rfl,rfl,rfl,rfl,rfl,?_,?_⟩,?_⟩
  ·and_intros<;>try first|exact trivial|exact rfl
   ·show ((i : Nat) : Int) = IntKind.i64.wrap ((a : Int) + 1)
    rw [wrapS _ ⟨by omega,by omega⟩];omega
   ·show ((j : Nat) : Int) = IntKind.i64.wrap ((b : Int) - 1)
    rw [wrapS _ ⟨by omega,by omega⟩];omega
  ·and_intros<;>try first|exact trivial|exact rfl
   exact hsc.symm
  intro ⟨k,hK,hik⟩
  have ai := hK.ai
  have ij := hK.ij
  have jb := hK.jb
  intro _;refine ⟨fun g=>?_,fun g=>?_⟩
  rotate_left
  ·have g := of_decide_eq_false (show decide ((k : Int)≤(j : Int)) = false from g)
   intro _;refine ⟨by kernel_rfl,?_⟩
   refine Or.inl ⟨⟨k,hK,.inl (by omega),hik⟩,rfl,th [] 1,rfl,rfl,rfl,rfl,rfl,rfl,?_,?_⟩
   ·and_intros<;>try first|exact trivial|exact rfl
   ·and_intros<;>try first|exact trivial|exact rfl
  have g := of_decide_eq_true (show decide ((k : Int)≤(j : Int)) = true from g)
  intro _;refine ⟨(show 0≤((k : Nat) : Int)∧((k : Nat) : Int) < (l.length : Int) by omega),?_⟩
  intro _;refine ⟨(show ((k : Nat) : Int).toNat < c.length by omega),?_⟩
  intro _;refine ⟨(show 0≤((a : Nat) : Int)∧((a : Nat) : Int) < (l.length : Int) by omega),?_⟩
  intro _;refine ⟨(show ((a : Nat) : Int).toNat < c.length by omega),?_⟩
  intro _
  refine Or.inl ?_
  intro _
  refine call_pure [] (less_ok (raw c k) (raw c a) (hB_c.at _) (hB_c.at _)) rfl rfl rfl ?_ ?_ ?_
  ·and_intros<;>try first|exact trivial|exact rfl
  ·and_intros<;>try first|exact trivial|exact rfl
  intro v hv _
  subst hv
  have pa := hK.pa
  intro _;refine ⟨by kernel_rfl,?_⟩
  intro _;refine ⟨fun g=>?_,fun g=>?_⟩
  rotate_left
  ·have g2 : ¬ at' c k < at' c a := fun q=>absurd (nr_lt.2 q) (of_decide_eq_false (show decide (nr (raw c k) (raw c a) < 0) = false from g))
   refine Or.inl ⟨⟨k,hK,.inr (by omega),hik⟩,rfl,th [] 1,rfl,rfl,rfl,rfl,rfl,rfl,?_,?_⟩
   ·and_intros<;>try first|exact trivial|exact rfl
   ·and_intros<;>try first|exact trivial|exact rfl
  have g2 : at' c k < at' c a := nr_lt.1 (of_decide_eq_true (show decide (nr (raw c k) (raw c a) < 0) = true from g))
  refine ⟨⟨k + 1,hK.up (by omega) (by omega),by omega⟩,by show b - (k + 1) < b - k;omega,th [] 1,rfl,rfl,rfl,rfl,rfl,rfl,?_,?_⟩
  ·and_intros<;>try first|exact trivial|exact rfl
   show ((k + 1 : Nat) : Int) = IntKind.i64.wrap ((k : Int) + 1)
   rw [wrapS _ ⟨by omega,by omega⟩];omega
  ·and_intros<;>try first|exact trivial|exact rfl
 intro _
 refine meet2 [13] [0] 1 (.exit 2) (fun x : { x : Nat // PI a b pv 0 c i2 x∧(x < i2 ∨ at' c x < pv + 0)∧(x < i2 ∨ pv + 0≤at' c i2) }=>[(13,.int .i64 (x.1 : Nat))]) (fun _=>DA c) ?_
 intro _
 refine ⟨?_,fun ⟨j2,hP3,hy,hx⟩=>?_⟩
 ·refine loop2 tt_ok [13] [0] 1 (fun x : { x : Nat // PI a b pv 0 c i2 x∧(x < i2 ∨ pv + 0≤at' c i2) }=>[(13,.int .i64 (x.1 : Nat))]) (fun _=>DA c) (fun x=>x.1) ⟨j,hP2,hx⟩ ?_
  intro _
  refine ⟨⟨th [] 1,rfl,rfl,rfl,rfl,rfl,rfl,?_,?_⟩,?_⟩
  ·and_intros<;>try first|exact trivial|exact rfl
  ·and_intros<;>try first|exact trivial|exact rfl
  intro ⟨k,hK,hx⟩
  have ai := hK.ai
  have ij := hK.ij
  have jb := hK.jb
  intro _;refine ⟨fun g=>?_,fun g=>?_⟩
  rotate_left
  ·have g := of_decide_eq_false (show decide ((i2 : Int)≤(k : Int)) = false from g)
   intro _;refine ⟨by kernel_rfl,?_⟩
   refine Or.inl ⟨⟨k,hK,.inl (by omega),hx⟩,rfl,th [] 1,rfl,rfl,rfl,rfl,rfl,rfl,?_,?_⟩
   ·and_intros<;>try first|exact trivial|exact rfl
   ·and_intros<;>try first|exact trivial|exact rfl
  have g := of_decide_eq_true (show decide ((i2 : Int)≤(k : Int)) = true from g)
  intro _;refine ⟨(show 0≤((k : Nat) : Int)∧((k : Nat) : Int) < (l.length : Int) by omega),?_⟩
  intro _;refine ⟨(show ((k : Nat) : Int).toNat < c.length by omega),?_⟩
  intro _;refine ⟨(show 0≤((a : Nat) : Int)∧((a : Nat) : Int) < (l.length : Int) by omega),?_⟩
  intro _;refine ⟨(show ((a : Nat) : Int).toNat < c.length by omega),?_⟩
  intro _
  refine Or.inl ?_
  intro _
  refine call_pure [] (less_ok (raw c k) (raw c a) (hB_c.at _) (hB_c.at _)) rfl rfl rfl ?_ ?_ ?_
  ·and_intros<;>try first|exact trivial|exact rfl
  ·and_intros<;>try first|exact trivial|exact rfl
  intro v hv _
  subst hv
  have pa := hK.pa
  intro _;refine ⟨by kernel_rfl,?_⟩
  intro _;refine ⟨fun g=>?_,fun g=>?_⟩
  rotate_left
  ·have g2 : (!decide (nr (raw c k) (raw c a) < 0)) = false := g
   rw [Bool.not_eq_false'] at g2
   have g2 : at' c k < at' c a := nr_lt.1 (of_decide_eq_true g2)
   refine Or.inl ⟨⟨k,hK,.inr (by omega),hx⟩,rfl,th [] 1,rfl,rfl,rfl,rfl,rfl,rfl,?_,?_⟩
   ·and_intros<;>try first|exact trivial|exact rfl
   ·and_intros<;>try first|exact trivial|exact rfl
  have g2 : (!decide (nr (raw c k) (raw c a) < 0)) = true := g
  rw [Bool.not_eq_true'] at g2
  have g2 : ¬ at' c k < at' c a := fun q=>absurd (nr_lt.2 q) (of_decide_eq_false g2)
  refine ⟨⟨k - 1,hK.down (by omega) (by omega),hx.elim (fun q=>.inl (by omega)) .inr⟩,by show k - 1 < k;omega,th [] 1,rfl,rfl,rfl,rfl,rfl,rfl,?_,?_⟩
  ·and_intros<;>try first|exact trivial|exact rfl
   show ((k - 1 : Nat) : Int) = IntKind.i64.wrap ((k : Int) - 1)
   rw [wrapS _ ⟨by omega,by omega⟩];omega
  ·and_intros<;>try first|exact trivial|exact rfl
 have ai := hP3.ai
 have ij := hP3.ij
 have jb := hP3.jb
 intro _;refine ⟨fun g=>?_,fun g=>?_⟩
 ·have g := of_decide_eq_true (show decide ((i2 : Int) > (j2 : Int)) = true from g)
  intro _;refine ⟨(show 0≤((a : Nat) : Int)∧((a : Nat) : Int) < (l.length : Int) by omega),?_⟩
  intro _;refine ⟨(show ((a : Nat) : Int).toNat < c.length by omega),?_⟩
  intro _;refine ⟨(show 0≤((j2 : Nat) : Int)∧((j2 : Nat) : Int) < (l.length : Int) by omega),?_⟩
  intro _;refine ⟨(show ((j2 : Nat) : Int).toNat < c.length by omega),?_⟩
  intro _;refine ⟨(show 0≤((j2 : Nat) : Int)∧((j2 : Nat) : Int) < (l.length : Int) by omega),?_⟩
  intro _;refine ⟨(show ((j2 : Nat) : Int).toNat < c.length by omega),?_⟩
  intro _;refine ⟨(show 0≤((a : Nat) : Int)∧((a : Nat) : Int) < (l.length : Int) by omega),?_⟩
  intro _;refine ⟨(show ((a : Nat) : Int).toNat < (c.set _ _).length by rw [List.length_set];omega),?_⟩
  intro _;refine ⟨by kernel_rfl,?_⟩
  intro _
  exact ⟨sw c j2 a,j2,true,⟨hPm.trans (sw_pm ⟨by omega,by omega⟩ ⟨by omega,by omega⟩ (by omega)),hP3.fin (by omega) (by omega)⟩,rfl,rfl⟩
 have g := of_decide_eq_false (show decide ((i2 : Int) > (j2 : Int)) = false from g)
 have hPs := hP3.swap (by omega) (by omega) (hx.elim (fun q=>by omega) id) (hy.elim (fun q=>by omega) id)
 have hPm2 : Pm a b c (sw c i2 j2) := sw_pm ⟨by omega,by omega⟩ ⟨by omega,by omega⟩ (by omega)
 intro _;refine ⟨(show 0≤((j2 : Nat) : Int)∧((j2 : Nat) : Int) < (l.length : Int) by omega),?_⟩
 intro _;refine ⟨(show ((j2 : Nat) : Int).toNat < c.length by omega),?_⟩
 intro _;refine ⟨(show 0≤((i2 : Nat) : Int)∧((i2 : Nat) : Int) < (l.length : Int) by omega),?_⟩
 intro _;refine ⟨(show ((i2 : Nat) : Int).toNat < c.length by omega),?_⟩
 intro _;refine ⟨(show 0≤((i2 : Nat) : Int)∧((i2 : Nat) : Int) < (l.length : Int) by omega),?_⟩
 intro _;refine ⟨(show ((i2 : Nat) : Int).toNat < c.length by omega),?_⟩
 intro _;refine ⟨(show 0≤((j2 : Nat) : Int)∧((j2 : Nat) : Int) < (l.length : Int) by omega),?_⟩
 intro _;refine ⟨(show ((j2 : Nat) : Int).toNat < (c.set _ _).length by rw [List.length_set];omega),?_⟩
 intro _;refine ⟨by kernel_rfl,?_⟩
 intro _
 refine loop2 tt_ok [12,13] [0] 1 (fun x : { x : Nat × Nat × List Int // Pm a b l x.2.2∧PI a b pv 0 x.2.2 x.1 x.2.1 }=>[(12,.int .i64 (x.1.1 : Nat)),(13,.int .i64 (x.1.2.1 : Nat))]) (fun x=>DA x.1.2.2) (fun x=>b - x.1.1) ⟨(i2 + 1,j2 - 1,sw c i2 j2),hPm.trans hPm2,hPs⟩ ?_
 intro _
 refine ⟨⟨th [] 1,rfl,rfl,rfl,rfl,rfl,rfl,?_,?_⟩,?_⟩
 ·and_intros<;>try first|exact trivial|exact rfl
  ·show ((i2 + 1 : Nat) : Int) = IntKind.i64.wrap ((i2 : Int) + 1)
   rw [wrapS _ ⟨by omega,by omega⟩];omega
  ·show ((j2 - 1 : Nat) : Int) = IntKind.i64.wrap ((j2 : Int) - 1)
   rw [wrapS _ ⟨by omega,by omega⟩];omega
 ·and_intros<;>try first|exact trivial|exact rfl
 intro ⟨⟨i,j,c⟩,hPm,hP⟩
 have hPm : Pm a b l c := hPm
 have hcl : c.length = l.length := hPm.len
 have hB_c : Bd c := hPm.bd hB_l
 have hP : PI a b pv 0 c i j := hP
 intro _
 refine meet2 [12,13] [0] 1 (.exit 6) (fun x : { x : Nat // PI a b pv 0 c x j∧(j < x ∨ pv + 0≤at' c x)∧i≤x }=>[(12,.int .i64 (x.1 : Nat)),(13,.int .i64 (j : Nat))]) (fun _=>DA c) ?_
 intro _
 refine ⟨?_,fun ⟨i2,hP2,hx,hii⟩=>?_⟩
 ·refine loop2 tt_ok [12,13] [0] 1 (fun x : { x : Nat // PI a b pv 0 c x j∧i≤x }=>[(12,.int .i64 (x.1 : Nat)),(13,.int .i64 (j : Nat))]) (fun _=>DA c) (fun x=>b - x.1) ⟨i,hP,Nat.le_refl _⟩ ?_
  intro _
  refine ⟨⟨th [] 1,rfl,rfl,rfl,rfl,rfl,rfl,?_,?_⟩,?_⟩
  ·and_intros<;>try first|exact trivial|exact rfl
  ·and_intros<;>try first|exact trivial|exact rfl
  intro ⟨k,hK,hik⟩
  have ai := hK.ai
  have ij := hK.ij
  have jb := hK.jb
  intro _;refine ⟨fun g=>?_,fun g=>?_⟩
  rotate_left
  ·have g := of_decide_eq_false (show decide ((k : Int)≤(j : Int)) = false from g)
   intro _;refine ⟨by kernel_rfl,?_⟩
   refine Or.inl ⟨⟨k,hK,.inl (by omega),hik⟩,rfl,th [] 1,rfl,rfl,rfl,rfl,rfl,rfl,?_,?_⟩
   ·and_intros<;>try first|exact trivial|exact rfl
   ·and_intros<;>try first|exact trivial|exact rfl
  have g := of_decide_eq_true (show decide ((k : Int)≤(j : Int)) = true from g)
  intro _;refine ⟨(show 0≤((k : Nat) : Int)∧((k : Nat) : Int) < (l.length : Int) by omega),?_⟩
  intro _;refine ⟨(show ((k : Nat) : Int).toNat < c.length by omega),?_⟩
  intro _;refine ⟨(show 0≤((a : Nat) : Int)∧((a : Nat) : Int) < (l.length : Int) by omega),?_⟩
  intro _;refine ⟨(show ((a : Nat) : Int).toNat < c.length by omega),?_⟩
  intro _
  refine Or.inl ?_
  intro _
  refine call_pure [] (less_ok (raw c k) (raw c a) (hB_c.at _) (hB_c.at _)) rfl rfl rfl ?_ ?_ ?_
  ·and_intros<;>try first|exact trivial|exact rfl
  ·and_intros<;>try first|exact trivial|exact rfl
  intro v hv _
  subst hv
  have pa := hK.pa
  intro _;refine ⟨by kernel_rfl,?_⟩
  intro _;refine ⟨fun g=>?_,fun g=>?_⟩
  rotate_left
  ·have g2 : ¬ at' c k < at' c a := fun q=>absurd (nr_lt.2 q) (of_decide_eq_false (show decide (nr (raw c k) (raw c a) < 0) = false from g))
   refine Or.inl ⟨⟨k,hK,.inr (by omega),hik⟩,rfl,th [] 1,rfl,rfl,rfl,rfl,rfl,rfl,?_,?_⟩
   ·and_intros<;>try first|exact trivial|exact rfl
   ·and_intros<;>try first|exact trivial|exact rfl
  have g2 : at' c k < at' c a := nr_lt.1 (of_decide_eq_true (show decide (nr (raw c k) (raw c a) < 0) = true from g))
  refine ⟨⟨k + 1,hK.up (by omega) (by omega),by omega⟩,by show b - (k + 1) < b - k;omega,th [] 1,rfl,rfl,rfl,rfl,rfl,rfl,?_,?_⟩
  ·and_intros<;>try first|exact trivial|exact rfl
   show ((k + 1 : Nat) : Int) = IntKind.i64.wrap ((k : Int) + 1)
   rw [wrapS _ ⟨by omega,by omega⟩];omega
  ·and_intros<;>try first|exact trivial|exact rfl
 intro _
 refine meet2 [13] [0] 1 (.exit 8) (fun x : { x : Nat // PI a b pv 0 c i2 x∧(x < i2 ∨ at' c x < pv + 0)∧(x < i2 ∨ pv + 0≤at' c i2) }=>[(13,.int .i64 (x.1 : Nat))]) (fun _=>DA c) ?_
 intro _
 refine ⟨?_,fun ⟨j2,hP3,hy,hx⟩=>?_⟩
 ·refine loop2 tt_ok [13] [0] 1 (fun x : { x : Nat // PI a b pv 0 c i2 x∧(x < i2 ∨ pv + 0≤at' c i2) }=>[(13,.int .i64 (x.1 : Nat))]) (fun _=>DA c) (fun x=>x.1) ⟨j,hP2,hx⟩ ?_
  intro _
  refine ⟨⟨th [] 1,rfl,rfl,rfl,rfl,rfl,rfl,?_,?_⟩,?_⟩
  ·and_intros<;>try first|exact trivial|exact rfl
  ·and_intros<;>try first|exact trivial|exact rfl
  intro ⟨k,hK,hx⟩
  have ai := hK.ai
  have ij := hK.ij
  have jb := hK.jb
  intro _;refine ⟨fun g=>?_,fun g=>?_⟩
  rotate_left
  ·have g := of_decide_eq_false (show decide ((i2 : Int)≤(k : Int)) = false from g)
   intro _;refine ⟨by kernel_rfl,?_⟩
   refine Or.inl ⟨⟨k,hK,.inl (by omega),hx⟩,rfl,th [] 1,rfl,rfl,rfl,rfl,rfl,rfl,?_,?_⟩
   ·and_intros<;>try first|exact trivial|exact rfl
   ·and_intros<;>try first|exact trivial|exact rfl
  have g := of_decide_eq_true (show decide ((i2 : Int)≤(k : Int)) = true from g)
  intro _;refine ⟨(show 0≤((k : Nat) : Int)∧((k : Nat) : Int) < (l.length : Int) by omega),?_⟩
  intro _;refine ⟨(show ((k : Nat) : Int).toNat < c.length by omega),?_⟩
  intro _;refine ⟨(show 0≤((a : Nat) : Int)∧((a : Nat) : Int) < (l.length : Int) by omega),?_⟩
  intro _;refine ⟨(show ((a : Nat) : Int).toNat < c.length by omega),?_⟩
  intro _
  refine Or.inl ?_
  intro _
  refine call_pure [] (less_ok (raw c k) (raw c a) (hB_c.at _) (hB_c.at _)) rfl rfl rfl ?_ ?_ ?_
  ·and_intros<;>try first|exact trivial|exact rfl
  ·and_intros<;>try first|exact trivial|exact rfl
  intro v hv _
  subst hv
  have pa := hK.pa
  intro _;refine ⟨by kernel_rfl,?_⟩
  intro _;refine ⟨fun g=>?_,fun g=>?_⟩
  rotate_left
  ·have g2 : (!decide (nr (raw c k) (raw c a) < 0)) = false := g
   rw [Bool.not_eq_false'] at g2
   have g2 : at' c k < at' c a := nr_lt.1 (of_decide_eq_true g2)
   refine Or.inl ⟨⟨k,hK,.inr (by omega),hx⟩,rfl,th [] 1,rfl,rfl,rfl,rfl,rfl,rfl,?_,?_⟩
   ·and_intros<;>try first|exact trivial|exact rfl
   ·and_intros<;>try first|exact trivial|exact rfl
  have g2 : (!decide (nr (raw c k) (raw c a) < 0)) = true := g
  rw [Bool.not_eq_true'] at g2
  have g2 : ¬ at' c k < at' c a := fun q=>absurd (nr_lt.2 q) (of_decide_eq_false g2)
  refine ⟨⟨k - 1,hK.down (by omega) (by omega),hx.elim (fun q=>.inl (by omega)) .inr⟩,by show k - 1 < k;omega,th [] 1,rfl,rfl,rfl,rfl,rfl,rfl,?_,?_⟩
  ·and_intros<;>try first|exact trivial|exact rfl
   show ((k - 1 : Nat) : Int) = IntKind.i64.wrap ((k : Int) - 1)
   rw [wrapS _ ⟨by omega,by omega⟩];omega
  ·and_intros<;>try first|exact trivial|exact rfl
 have ai := hP3.ai
 have ij := hP3.ij
 have jb := hP3.jb
 intro _;refine ⟨fun g=>?_,fun g=>?_⟩
 ·have g := of_decide_eq_true (show decide ((i2 : Int) > (j2 : Int)) = true from g)
  intro _;refine ⟨(show 0≤((a : Nat) : Int)∧((a : Nat) : Int) < (l.length : Int) by omega),?_⟩
  intro _;refine ⟨(show ((a : Nat) : Int).toNat < c.length by omega),?_⟩
  intro _;refine ⟨(show 0≤((j2 : Nat) : Int)∧((j2 : Nat) : Int) < (l.length : Int) by omega),?_⟩
  intro _;refine ⟨(show ((j2 : Nat) : Int).toNat < c.length by omega),?_⟩
  intro _;refine ⟨(show 0≤((j2 : Nat) : Int)∧((j2 : Nat) : Int) < (l.length : Int) by omega),?_⟩
  intro _;refine ⟨(show ((j2 : Nat) : Int).toNat < c.length by omega),?_⟩
  intro _;refine ⟨(show 0≤((a : Nat) : Int)∧((a : Nat) : Int) < (l.length : Int) by omega),?_⟩
  intro _;refine ⟨(show ((a : Nat) : Int).toNat < (c.set _ _).length by rw [List.length_set];omega),?_⟩
  intro _;refine ⟨by kernel_rfl,?_⟩
  intro _
  exact ⟨sw c j2 a,j2,false,⟨hPm.trans (sw_pm ⟨by omega,by omega⟩ ⟨by omega,by omega⟩ (by omega)),hP3.fin (by omega) (by omega)⟩,rfl,rfl⟩
 have g := of_decide_eq_false (show decide ((i2 : Int) > (j2 : Int)) = false from g)
 have hPs := hP3.swap (by omega) (by omega) (hx.elim (fun q=>by omega) id) (hy.elim (fun q=>by omega) id)
 have hPm2 : Pm a b c (sw c i2 j2) := sw_pm ⟨by omega,by omega⟩ ⟨by omega,by omega⟩ (by omega)
 intro _;refine ⟨(show 0≤((j2 : Nat) : Int)∧((j2 : Nat) : Int) < (l.length : Int) by omega),?_⟩
 intro _;refine ⟨(show ((j2 : Nat) : Int).toNat < c.length by omega),?_⟩
 intro _;refine ⟨(show 0≤((i2 : Nat) : Int)∧((i2 : Nat) : Int) < (l.length : Int) by omega),?_⟩
 intro _;refine ⟨(show ((i2 : Nat) : Int).toNat < c.length by omega),?_⟩
 intro _;refine ⟨(show 0≤((i2 : Nat) : Int)∧((i2 : Nat) : Int) < (l.length : Int) by omega),?_⟩
 intro _;refine ⟨(show ((i2 : Nat) : Int).toNat < c.length by omega),?_⟩
 intro _;refine ⟨(show 0≤((j2 : Nat) : Int)∧((j2 : Nat) : Int) < (l.length : Int) by omega),?_⟩
 intro _;refine ⟨(show ((j2 : Nat) : Int).toNat < (c.set _ _).length by rw [List.length_set];omega),?_⟩
 intro _;refine ⟨by kernel_rfl,?_⟩
 refine ⟨⟨(i2 + 1,j2 - 1,sw c i2 j2),hPm.trans hPm2,hPs⟩,by show b - (i2 + 1) < b - i;have := hP.ai;omega,th [] 1,rfl,rfl,rfl,rfl,rfl,rfl,?_,?_⟩
 ·and_intros<;>try first|exact trivial|exact rfl
  ·show ((i2 + 1 : Nat) : Int) = IntKind.i64.wrap ((i2 : Int) + 1)
   rw [wrapS _ ⟨by omega,by omega⟩];omega
  ·show ((j2 - 1 : Nat) : Int) = IntKind.i64.wrap ((j2 : Int) - 1)
   rw [wrapS _ ⟨by omega,by omega⟩];omega
 ·and_intros<;>try first|exact trivial|exact rfl
theorem PI.fin1 {a b : Nat} {pv : Int} {c : List Int} {i j : Nat} (h : PI a b pv 1 c i j) (hij : j < i) : (∀ k,a≤k→k < i→at' c k≤pv)∧(∀ k,i≤k→k < b→pv < at' c k) := by
 have h1 := h.ij
 refine ⟨fun k k1 k2=>?_,fun k k1 k2=>?_⟩
 ·by_cases e : k = a
  ·subst e;rw [h.pa];exact Int.le_refl _
  ·have := h.left k (by omega) k2;omega
 ·have := h.right k (by omega) k2;omega
set_option maxHeartbeats 2000000 in
theorem parteq_ok (l : List Int) (hB_l : Bd l) (a b p : Nat) (hab : a < b) (hb : b≤l.length) (hl : l.length≤4096) (hp : a≤p∧p < b) : SemF Try.prog 92 [.grw 0 l.length,.int .i64 a,.int .i64 b,.int .i64 p,.fn 74 [] []] ⟨1,0,DA l⟩ (fun v h'=>∃ l' m,(Pm a b l l'∧a < m∧m≤b∧(∀ k,a≤k→k < m→at' l' k≤at' l p)∧(∀ k,m≤k→k < b→at' l p < at' l' k))∧v = .int .i64 (m : Nat)∧Dat l' h') := by
 refine enter tt_ok Try.func92 (nt := 90) (cd := body Try.f92) rfl rfl rfl rfl ?_
 intro _;refine ⟨(show 0≤((p : Nat) : Int)∧((p : Nat) : Int) < (l.length : Int) by omega),?_⟩
 intro _;refine ⟨(show ((p : Nat) : Int).toNat < l.length by omega),?_⟩
 intro _;refine ⟨(show 0≤((a : Nat) : Int)∧((a : Nat) : Int) < (l.length : Int) by omega),?_⟩
 intro _;refine ⟨(show ((a : Nat) : Int).toNat < l.length by omega),?_⟩
 intro _;refine ⟨(show 0≤((a : Nat) : Int)∧((a : Nat) : Int) < (l.length : Int) by omega),?_⟩
 intro _;refine ⟨(show ((a : Nat) : Int).toNat < l.length by omega),?_⟩
 intro _;refine ⟨(show 0≤((p : Nat) : Int)∧((p : Nat) : Int) < (l.length : Int) by omega),?_⟩
 intro _;refine ⟨(show ((p : Nat) : Int).toNat < (l.set _ _).length by rw [List.length_set];omega),?_⟩
 intro _;refine ⟨by kernel_rfl,?_⟩
 obtain ⟨c,hc⟩ : ∃ c,c = sw l a p := ⟨_,rfl⟩
 have hsc : (l.set ((a : Nat) : Int).toNat (l.getD ((p : Nat) : Int).toNat 0)).set ((p : Nat) : Int).toNat (l.getD ((a : Nat) : Int).toNat 0) = c := hc.symm
 have hPm : Pm a b l c := by rw [hc];exact sw_pm ⟨by omega,by omega⟩ ⟨by omega,by omega⟩ hb
 have hcl : c.length = l.length := hPm.len
 have hB_c : Bd c := hPm.bd hB_l
 obtain ⟨pv,hpv⟩ : ∃ pv,pv = at' c a := ⟨_,rfl⟩
 have hpl : pv = at' l p := by
  rw [hpv,hc,at_sw (by omega) (by omega)]
  by_cases e : p = a
  ·rw [if_pos e,e]
  ·rw [if_neg e,if_pos rfl]
 have hP0 : PI a b pv 1 c (a + 1) (b - 1) := by rw [hpv];exact PI.start hab
 obtain ⟨i,hi⟩ : ∃ i,i = a + 1 := ⟨_,rfl⟩
 obtain ⟨j,hj⟩ : ∃ j,j = b - 1 := ⟨_,rfl⟩
 have hP : PI a b pv 1 c i j := by rw [hi,hj];exact hP0
 intro _
 refine loop2 tt_ok [11,12] [0] 1 (fun x : { x : Nat × Nat × List Int // Pm a b l x.2.2∧PI a b pv 1 x.2.2 x.1 x.2.1 }=>[(11,.int .i64 (x.1.1 : Nat)),(12,.int .i64 (x.1.2.1 : Nat))]) (fun x=>DA x.1.2.2) (fun x=>b - x.1.1) ⟨(i,j,c),hPm,hP⟩ ?_
 intro _
 refine ⟨⟨th [] 1,rfl,rfl,rfl,rfl,rfl,rfl,?_,?_⟩,?_⟩
 ·and_intros<;>try first|exact trivial|exact rfl
  ·show ((i : Nat) : Int) = IntKind.i64.wrap ((a : Int) + 1)
   rw [wrapS _ ⟨by omega,by omega⟩];omega
  ·show ((j : Nat) : Int) = IntKind.i64.wrap ((b : Int) - 1)
   rw [wrapS _ ⟨by omega,by omega⟩];omega
 ·and_intros<;>try first|exact trivial|exact rfl
  exact hc
 intro ⟨⟨i,j,c⟩,hPm,hP⟩
 have hPm : Pm a b l c := hPm
 have hcl : c.length = l.length := hPm.len
 have hB_c : Bd c := hPm.bd hB_l
 have hP : PI a b pv 1 c i j := hP
 intro _
 refine meet2 [11,12] [0] 1 (.exit 2) (fun x : { x : Nat // PI a b pv 1 c x j∧(j < x ∨ pv + 1≤at' c x)∧i≤x }=>[(11,.int .i64 (x.1 : Nat)),(12,.int .i64 (j : Nat))]) (fun _=>DA c) ?_
 intro _
 refine ⟨?_,fun ⟨i2,hP2,hx,hii⟩=>?_⟩
 ·refine loop2 tt_ok [11,12] [0] 1 (fun x : { x : Nat // PI a b pv 1 c x j∧i≤x }=>[(11,.int .i64 (x.1 : Nat)),(12,.int .i64 (j : Nat))]) (fun _=>DA c) (fun x=>b - x.1) ⟨i,hP,Nat.le_refl _⟩ ?_
  intro _
  refine ⟨⟨th [] 1,rfl,rfl,rfl,rfl,rfl,rfl,?_,?_⟩,?_⟩
  ·and_intros<;>try first|exact trivial|exact rfl
  ·and_intros<;>try first|exact trivial|exact rfl
  intro ⟨k,hK,hik⟩
  have ai := hK.ai
  have ij := hK.ij
  have jb := hK.jb
  intro _;refine ⟨fun g=>?_,fun g=>?_⟩
  rotate_left
  ·have g := of_decide_eq_false (show decide ((k : Int)≤(j : Int)) = false from g)
   intro _;refine ⟨by kernel_rfl,?_⟩
   refine Or.inl ⟨⟨k,hK,.inl (by omega),hik⟩,rfl,th [] 1,rfl,rfl,rfl,rfl,rfl,rfl,?_,?_⟩
   ·and_intros<;>try first|exact trivial|exact rfl
   ·and_intros<;>try first|exact trivial|exact rfl
  have g := of_decide_eq_true (show decide ((k : Int)≤(j : Int)) = true from g)
  intro _;refine ⟨(show 0≤((a : Nat) : Int)∧((a : Nat) : Int) < (l.length : Int) by omega),?_⟩
  intro _;refine ⟨(show ((a : Nat) : Int).toNat < c.length by omega),?_⟩
  intro _;refine ⟨(show 0≤((k : Nat) : Int)∧((k : Nat) : Int) < (l.length : Int) by omega),?_⟩
  intro _;refine ⟨(show ((k : Nat) : Int).toNat < c.length by omega),?_⟩
  intro _
  refine Or.inl ?_
  intro _
  refine call_pure [] (less_ok (raw c a) (raw c k) (hB_c.at _) (hB_c.at _)) rfl rfl rfl ?_ ?_ ?_
  ·and_intros<;>try first|exact trivial|exact rfl
  ·and_intros<;>try first|exact trivial|exact rfl
  intro v hv _
  subst hv
  have pa := hK.pa
  intro _;refine ⟨by kernel_rfl,?_⟩
  intro _;refine ⟨fun g=>?_,fun g=>?_⟩
  rotate_left
  ·have g2 : (!decide (nr (raw c a) (raw c k) < 0)) = false := g
   rw [Bool.not_eq_false'] at g2
   have g2 : at' c a < at' c k := nr_lt.1 (of_decide_eq_true g2)
   refine Or.inl ⟨⟨k,hK,.inr (by omega),hik⟩,rfl,th [] 1,rfl,rfl,rfl,rfl,rfl,rfl,?_,?_⟩
   ·and_intros<;>try first|exact trivial|exact rfl
   ·and_intros<;>try first|exact trivial|exact rfl
  have g2 : (!decide (nr (raw c a) (raw c k) < 0)) = true := g
  rw [Bool.not_eq_true'] at g2
  have g2 : ¬ at' c a < at' c k := fun q=>absurd (nr_lt.2 q) (of_decide_eq_false g2)
  refine ⟨⟨k + 1,hK.up (by omega) (by omega),by omega⟩,by show b - (k + 1) < b - k;omega,th [] 1,rfl,rfl,rfl,rfl,rfl,rfl,?_,?_⟩
  ·and_intros<;>try first|exact trivial|exact rfl
   show ((k + 1 : Nat) : Int) = IntKind.i64.wrap ((k : Int) + 1)
   rw [wrapS _ ⟨by omega,by omega⟩];omega
  ·and_intros<;>try first|exact trivial|exact rfl
 intro _
 refine meet2 [12] [0] 1 (.exit 4) (fun x : { x : Nat // PI a b pv 1 c i2 x∧(x < i2 ∨ at' c x < pv + 1)∧(x < i2 ∨ pv + 1≤at' c i2) }=>[(12,.int .i64 (x.1 : Nat))]) (fun _=>DA c) ?_
 intro _
 refine ⟨?_,fun ⟨j2,hP3,hy,hx⟩=>?_⟩
 ·refine loop2 tt_ok [12] [0] 1 (fun x : { x : Nat // PI a b pv 1 c i2 x∧(x < i2 ∨ pv + 1≤at' c i2) }=>[(12,.int .i64 (x.1 : Nat))]) (fun _=>DA c) (fun x=>x.1) ⟨j,hP2,hx⟩ ?_
  intro _
  refine ⟨⟨th [] 1,rfl,rfl,rfl,rfl,rfl,rfl,?_,?_⟩,?_⟩
  ·and_intros<;>try first|exact trivial|exact rfl
  ·and_intros<;>try first|exact trivial|exact rfl
  intro ⟨k,hK,hx⟩
  have ai := hK.ai
  have ij := hK.ij
  have jb := hK.jb
  intro _;refine ⟨fun g=>?_,fun g=>?_⟩
  rotate_left
  ·have g := of_decide_eq_false (show decide ((i2 : Int)≤(k : Int)) = false from g)
   intro _;refine ⟨by kernel_rfl,?_⟩
   refine Or.inl ⟨⟨k,hK,.inl (by omega),hx⟩,rfl,th [] 1,rfl,rfl,rfl,rfl,rfl,rfl,?_,?_⟩
   ·and_intros<;>try first|exact trivial|exact rfl
   ·and_intros<;>try first|exact trivial|exact rfl
  have g := of_decide_eq_true (show decide ((i2 : Int)≤(k : Int)) = true from g)
  intro _;refine ⟨(show 0≤((a : Nat) : Int)∧((a : Nat) : Int) < (l.length : Int) by omega),?_⟩
  intro _;refine ⟨(show ((a : Nat) : Int).toNat < c.length by omega),?_⟩
  intro _;refine ⟨(show 0≤((k : Nat) : Int)∧((k : Nat) : Int) < (l.length : Int) by omega),?_⟩
  intro _;refine ⟨(show ((k : Nat) : Int).toNat < c.length by omega),?_⟩
  intro _
  refine Or.inl ?_
  intro _
  refine call_pure [] (less_ok (raw c a) (raw c k) (hB_c.at _) (hB_c.at _)) rfl rfl rfl ?_ ?_ ?_
  ·and_intros<;>try first|exact trivial|exact rfl
  ·and_intros<;>try first|exact trivial|exact rfl
  intro v hv _
  subst hv
  have pa := hK.pa
  intro _;refine ⟨by kernel_rfl,?_⟩
  intro _;refine ⟨fun g=>?_,fun g=>?_⟩
  rotate_left
  ·have g2 : ¬ at' c a < at' c k := fun q=>absurd (nr_lt.2 q) (of_decide_eq_false (show decide (nr (raw c a) (raw c k) < 0) = false from g))
   refine Or.inl ⟨⟨k,hK,.inr (by omega),hx⟩,rfl,th [] 1,rfl,rfl,rfl,rfl,rfl,rfl,?_,?_⟩
   ·and_intros<;>try first|exact trivial|exact rfl
   ·and_intros<;>try first|exact trivial|exact rfl
  have g2 : at' c a < at' c k := nr_lt.1 (of_decide_eq_true (show decide (nr (raw c a) (raw c k) < 0) = true from g))
  refine ⟨⟨k - 1,hK.down (by omega) (by omega),hx.elim (fun q=>.inl (by omega)) .inr⟩,by show k - 1 < k;omega,th [] 1,rfl,rfl,rfl,rfl,rfl,rfl,?_,?_⟩
  ·and_intros<;>try first|exact trivial|exact rfl
   show ((k - 1 : Nat) : Int) = IntKind.i64.wrap ((k : Int) - 1)
   rw [wrapS _ ⟨by omega,by omega⟩];omega
  ·and_intros<;>try first|exact trivial|exact rfl
 have ai := hP3.ai
 have ij := hP3.ij
 have jb := hP3.jb
 intro _;refine ⟨fun g=>?_,fun g=>?_⟩
 ·have g := of_decide_eq_true (show decide ((i2 : Int) > (j2 : Int)) = true from g)
  intro _
  obtain ⟨f1,f2⟩ := hP3.fin1 (by omega)
  rw [hpl] at f1 f2
  exact ⟨c,i2,⟨hPm,by omega,by omega,f1,f2⟩,rfl,rfl⟩
 have g := of_decide_eq_false (show decide ((i2 : Int) > (j2 : Int)) = false from g)
 have hPs := hP3.swap (by omega) (by omega) (hx.elim (fun q=>by omega) id) (hy.elim (fun q=>by omega) id)
 have hPm2 : Pm a b c (sw c i2 j2) := sw_pm ⟨by omega,by omega⟩ ⟨by omega,by omega⟩ (by omega)
 intro _;refine ⟨(show 0≤((j2 : Nat) : Int)∧((j2 : Nat) : Int) < (l.length : Int) by omega),?_⟩
 intro _;refine ⟨(show ((j2 : Nat) : Int).toNat < c.length by omega),?_⟩
 intro _;refine ⟨(show 0≤((i2 : Nat) : Int)∧((i2 : Nat) : Int) < (l.length : Int) by omega),?_⟩
 intro _;refine ⟨(show ((i2 : Nat) : Int).toNat < c.length by omega),?_⟩
 intro _;refine ⟨(show 0≤((i2 : Nat) : Int)∧((i2 : Nat) : Int) < (l.length : Int) by omega),?_⟩
 intro _;refine ⟨(show ((i2 : Nat) : Int).toNat < c.length by omega),?_⟩
 intro _;refine ⟨(show 0≤((j2 : Nat) : Int)∧((j2 : Nat) : Int) < (l.length : Int) by omega),?_⟩
 intro _;refine ⟨(show ((j2 : Nat) : Int).toNat < (c.set _ _).length by rw [List.length_set];omega),?_⟩
 intro _;refine ⟨by kernel_rfl,?_⟩
 refine ⟨⟨(i2 + 1,j2 - 1,sw c i2 j2),hPm.trans hPm2,hPs⟩,by show b - (i2 + 1) < b - i;have := hP.ai;omega,th [] 1,rfl,rfl,rfl,rfl,rfl,rfl,?_,?_⟩
 ·and_intros<;>try first|exact trivial|exact rfl
  ·show ((i2 + 1 : Nat) : Int) = IntKind.i64.wrap ((i2 : Int) + 1)
   rw [wrapS _ ⟨by omega,by omega⟩];omega
  ·show ((j2 - 1 : Nat) : Int) = IntKind.i64.wrap ((j2 : Int) - 1)
   rw [wrapS _ ⟨by omega,by omega⟩];omega
 ·and_intros<;>try first|exact trivial|exact rfl
def seg (l : List Int) (a b : Nat) : List Int := (l.take b).drop a
theorem ext_at {l l' : List Int} (hl : l'.length = l.length) (h : ∀ i,i < l.length→raw l' i = raw l i) : l' = l := by
 apply List.ext_getElem hl
 intro i h1 h2
 have := h i h2
 unfold raw at this
 rw [List.getD_eq_getElem?_getD,List.getD_eq_getElem?_getD,List.getElem?_eq_getElem h1,List.getElem?_eq_getElem h2] at this
 exact this
theorem at_take {l : List Int} {b i : Nat} (h : i < b) : raw (l.take b) i = raw l i := by
 unfold raw
 rw [List.getD_eq_getElem?_getD,List.getD_eq_getElem?_getD,List.getElem?_take,if_pos h]
theorem at_drop {l : List Int} {a i : Nat} : raw (l.drop a) i = raw l (a + i) := by
 unfold raw
 rw [List.getD_eq_getElem?_getD,List.getD_eq_getElem?_getD,List.getElem?_drop]
theorem seg_split (l : List Int) {a b : Nat} (hab : a≤b) : l = l.take a ++ (seg l a b ++ l.drop b) := by
 unfold seg
 have h1 : l = l.take b ++ l.drop b := (List.take_append_drop b l).symm
 have h2 : l.take b = (l.take b).take a ++ (l.take b).drop a := (List.take_append_drop a _).symm
 have h3 : (l.take b).take a = l.take a := by rw [List.take_take];congr 1;omega
 rw [h3] at h2
 rw [← List.append_assoc,← h2]
 exact h1
theorem Pm.seg {a b : Nat} {l l' : List Int} (h : Pm a b l l') (hab : a≤b) : (seg l' a b).Perm (seg l a b) := by
 have e1 : l'.take a = l.take a := ext_at (by simp [h.len]) (fun i hi=>by
  have hi' : i < a := by simp at hi;omega
  rw [at_take hi',at_take hi']
  exact h.outr i (.inl hi'))
 have e2 : l'.drop b = l.drop b := ext_at (by simp [h.len]) (fun i hi=>by
  rw [at_drop,at_drop]
  exact h.outr _ (.inr (by omega)))
 have hp := h.perm
 rw [seg_split l' hab,seg_split l hab,e1,e2] at hp
 exact (List.perm_append_right_iff _).1 ((List.perm_append_left_iff _).1 hp)
theorem mem_seg {l : List Int} {a b : Nat} (hb : b≤l.length) (x : Int) : x ∈ seg l a b ↔ ∃ k,a≤k∧k < b∧raw l k = x := by
 unfold seg
 rw [List.mem_iff_getElem?]
 constructor
 ·rintro ⟨i,hi⟩
  rw [List.getElem?_drop,List.getElem?_take] at hi
  split at hi
  ·rename_i h
   refine ⟨a + i,by omega,h,?_⟩
   unfold raw
   rw [List.getD_eq_getElem?_getD,hi];rfl
  ·cases hi
 ·rintro ⟨k,h1,h2,h3⟩
  refine ⟨k - a,?_⟩
  rw [List.getElem?_drop,List.getElem?_take,if_pos (by omega),show a + (k - a) = k by omega]
  unfold raw at h3
  rw [List.getD_eq_getElem?_getD,List.getElem?_eq_getElem (by omega)] at h3
  rw [List.getElem?_eq_getElem (by omega)]
  exact congrArg some h3
theorem Pm.all {a b : Nat} {l l' : List Int} (h : Pm a b l l') (hab : a≤b) (hb : b≤l.length) (Q : Int→Prop) (hq : ∀ k,a≤k→k < b→Q (at' l k)) : ∀ k,a≤k→k < b→Q (at' l' k) := by
 intro k h1 h2
 have hm : raw l' k ∈ con.seg l' a b := (mem_seg (by rw [h.len];exact hb) _).2 ⟨k,h1,h2,rfl⟩
 have hm2 := (h.seg hab).mem_iff.1 hm
 obtain ⟨j,j1,j2,j3⟩ := (mem_seg hb _).1 hm2
 show Q (Kx (raw l' k))
 rw [← j3];exact hq j j1 j2
def Hp (f lo hi : Nat) (c : List Int) : Prop := ∀ m,m < hi→2 * lo + 1≤m→at' c (f + m)≤at' c (f + (m - 1) / 2)
structure Sd (f lo hi : Nat) (c : List Int) (r : Nat) : Prop where
 A : ∀ m,m < hi→2 * lo + 1≤m→(m - 1) / 2 ≠ r→at' c (f + m)≤at' c (f + (m - 1) / 2)
 B : 2 * lo + 1≤r→∀ m,m < hi→1≤m→(m - 1) / 2 = r→at' c (f + m)≤at' c (f + (r - 1) / 2)
 lr : lo≤r
theorem Hp.sd {f lo hi : Nat} {c : List Int} (h : Hp f (lo + 1) hi c) : Sd f lo hi c lo :=
 ⟨fun m h1 h2 h3=>h m h1 (by omega),fun h1=>by omega,Nat.le_refl _⟩
theorem Sd.leaf {f lo hi : Nat} {c : List Int} {r : Nat} (h : Sd f lo hi c r) (hr : hi≤2 * r + 1) : Hp f lo hi c := fun m h1 h2=>h.A m h1 h2 (by omega)
theorem Sd.done {f lo hi : Nat} {c : List Int} {r ch : Nat} (h : Sd f lo hi c r) (hm : ∀ m,m < hi→1≤m→(m - 1) / 2 = r→at' c (f + m)≤at' c (f + ch)) (hc : at' c (f + ch)≤at' c (f + r)) : Hp f lo hi c := fun m h1 h2=>by
 by_cases e : (m - 1) / 2 = r
 ·rw [e];have := hm m h1 (by omega) e;omega
 ·exact h.A m h1 h2 e
theorem Sd.step {f lo hi : Nat} {c : List Int} {r ch : Nat} (h : Sd f lo hi c r) (hf : f + hi≤c.length) (h1 : 1≤ch) (hch : (ch - 1) / 2 = r) (hlt : ch < hi) (hm : ∀ m,m < hi→1≤m→(m - 1) / 2 = r→at' c (f + m)≤at' c (f + ch)) (hc : at' c (f + r) < at' c (f + ch)) : Sd f lo hi (sw c (f + r) (f + ch)) ch := by
 have hl := h.lr
 have X : ∀ k,at' (sw c (f + r) (f + ch)) (f + k) = if ch = k then at' c (f + r) else if r = k then at' c (f + ch) else at' c (f + k) := fun k=>by
  rw [at_sw (by omega) (by omega)]
  by_cases e : ch = k
  ·rw [if_pos (by omega),if_pos e]
  ·rw [if_neg (by omega),if_neg e]
   by_cases e2 : r = k
   ·rw [if_pos (by omega),if_pos e2]
   ·rw [if_neg (by omega),if_neg e2]
 refine ⟨fun m k1 k2 k3=>?_,fun k0 m k1 k2 k3=>?_,by omega⟩
 ·rw [X,X]
  rw [if_neg (show ¬ ch = (m - 1) / 2 from fun e=>k3 e.symm)]
  by_cases e : ch = m
  ·rw [if_pos e,if_pos (by omega)];omega
  ·rw [if_neg e]
   by_cases e2 : r = m
   ·rw [if_pos e2,if_neg (by omega)]
    have := h.B (by omega) ch hlt h1 hch
    rw [← e2];exact this
   ·rw [if_neg e2]
    by_cases e3 : r = (m - 1) / 2
    ·rw [if_pos e3];exact hm m k1 (by omega) e3.symm
    ·rw [if_neg e3];exact h.A m k1 k2 (fun e=>e3 e.symm)
 ·rw [X,X,if_neg (by omega),if_neg (by omega),if_neg (by omega),if_pos (by omega)]
  have := h.A m k1 (by omega) (by omega)
  rw [k3] at this;exact this
set_option maxHeartbeats 2000000 in
theorem sift_ok (l : List Int) (hB_l : Bd l) (lo hi f : Nat) (hf : f + hi≤l.length) (hl : l.length≤4096) (hlo : lo≤4096) (hh : Hp f (lo + 1) hi l) : SemF Try.prog 96 [.grw 0 l.length,.int .i64 lo,.int .i64 hi,.int .i64 f,.fn 74 [] []] ⟨1,0,DA l⟩ (fun v h'=>∃ l',(Pm f (f + hi) l l'∧Hp f lo hi l')∧v = .tup []∧Dat l' h') := by
 by_cases hlh : hi≤lo
 ·refine enter tt_ok Try.func96 (nt := 82) (cd := body Try.f96) rfl rfl rfl rfl ?_
  intro _
  refine loop_step tt_ok ?_
  intro _;refine ⟨fun g=>?_,fun g=>?_⟩
  ·intro _
   exact ⟨l,⟨Pm.refl _ _ _,fun m h1 h2=>by omega⟩,rfl,rfl⟩
  ·have g := of_decide_eq_false (show decide (IntKind.i64.wrap (IntKind.i64.wrap (2 * (lo : Int)) + 1) ≥ (hi : Int)) = false from g)
   rw [wrapS (2 * (lo : Int)) ⟨by omega,by omega⟩,wrapS _ ⟨by omega,by omega⟩] at g
   omega
 refine enter tt_ok Try.func96 (nt := 82) (cd := body Try.f96) rfl rfl rfl rfl ?_
 intro _
 refine loop2 tt_ok [10] [0] 1 (fun x : { x : Nat × List Int // Pm f (f + hi) l x.2∧Sd f lo hi x.2 x.1∧x.1 < hi }=>[(10,.int .i64 (x.1.1 : Nat))]) (fun x=>DA x.1.2) (fun x=>hi - x.1.1) ⟨(lo,l),Pm.refl _ _ _,hh.sd,by show lo < hi;omega⟩ ?_
 intro _
 refine ⟨⟨th [] 1,rfl,rfl,rfl,rfl,rfl,rfl,?_,?_⟩,?_⟩
 ·and_intros<;>try first|exact trivial|exact rfl
 ·and_intros<;>try first|exact trivial|exact rfl
 intro ⟨⟨r,c⟩,hc,hS,hr⟩
 have hc : Pm f (f + hi) l c := hc
 have hcl : c.length = l.length := hc.len
 have hB_c : Bd c := hc.bd hB_l
 have hS : Sd f lo hi c r := hS
 have hr : r < hi := hr
 have e1 : IntKind.i64.wrap (IntKind.i64.wrap (2 * (r : Int)) + 1) = ((2 * r + 1 : Nat) : Int) := by rw [wrapS (2 * (r : Int)) ⟨by omega,by omega⟩,wrapS _ ⟨by omega,by omega⟩];omega
 intro _;refine ⟨fun g=>?_,fun g=>?_⟩
 ·have g := of_decide_eq_true (show decide (IntKind.i64.wrap (IntKind.i64.wrap (2 * (r : Int)) + 1) ≥ (hi : Int)) = true from g)
  rw [e1] at g
  intro _
  exact ⟨c,⟨hc,hS.leaf (by omega)⟩,rfl,rfl⟩
 have g := of_decide_eq_false (show decide (IntKind.i64.wrap (IntKind.i64.wrap (2 * (r : Int)) + 1) ≥ (hi : Int)) = false from g)
 rw [e1] at g
 intro _;refine ⟨fun g=>?_,fun g=>?_⟩
 ·have g1 := of_decide_eq_true (show decide (IntKind.i64.wrap (IntKind.i64.wrap (IntKind.i64.wrap (2 * (r : Int)) + 1) + 1) < (hi : Int)) = true from g)
  have e2 : IntKind.i64.wrap (IntKind.i64.wrap (IntKind.i64.wrap (2 * (r : Int)) + 1) + 1) = ((2 * r + 2 : Nat) : Int) := by rw [e1,wrapS _ ⟨by omega,by omega⟩];omega
  rw [e2] at g1
  have f1 : IntKind.i64.wrap ((f : Int) + IntKind.i64.wrap (IntKind.i64.wrap (2 * (r : Int)) + 1)) = ((f + (2 * r + 1) : Nat) : Int) := by rw [e1,wrapS _ ⟨by omega,by omega⟩];omega
  have f2 : IntKind.i64.wrap (IntKind.i64.wrap ((f : Int) + IntKind.i64.wrap (IntKind.i64.wrap (2 * (r : Int)) + 1)) + 1) = ((f + (2 * r + 2) : Nat) : Int) := by rw [f1,wrapS _ ⟨by omega,by omega⟩];omega
  have m1 : (IntKind.i64.wrap ((f : Int) + IntKind.i64.wrap (IntKind.i64.wrap (2 * (r : Int)) + 1))).toNat = f + (2 * r + 1) := by rw [f1];rfl
  have m2 : (IntKind.i64.wrap (IntKind.i64.wrap ((f : Int) + IntKind.i64.wrap (IntKind.i64.wrap (2 * (r : Int)) + 1)) + 1)).toNat = f + (2 * r + 2) := by rw [f2];rfl
  intro _;refine ⟨show 0≤IntKind.i64.wrap ((f : Int) + IntKind.i64.wrap (IntKind.i64.wrap (2 * (r : Int)) + 1))∧IntKind.i64.wrap ((f : Int) + IntKind.i64.wrap (IntKind.i64.wrap (2 * (r : Int)) + 1)) < (l.length : Int) by rw [f1];omega,?_⟩
  intro _;refine ⟨show (IntKind.i64.wrap ((f : Int) + IntKind.i64.wrap (IntKind.i64.wrap (2 * (r : Int)) + 1))).toNat < c.length by rw [m1];omega,?_⟩
  intro _;refine ⟨show 0≤IntKind.i64.wrap (IntKind.i64.wrap ((f : Int) + IntKind.i64.wrap (IntKind.i64.wrap (2 * (r : Int)) + 1)) + 1)∧IntKind.i64.wrap (IntKind.i64.wrap ((f : Int) + IntKind.i64.wrap (IntKind.i64.wrap (2 * (r : Int)) + 1)) + 1) < (l.length : Int) by rw [f2];omega,?_⟩
  intro _;refine ⟨show (IntKind.i64.wrap (IntKind.i64.wrap ((f : Int) + IntKind.i64.wrap (IntKind.i64.wrap (2 * (r : Int)) + 1)) + 1)).toNat < c.length by rw [m2];omega,?_⟩
  intro _
  refine Or.inl ?_
  intro _
  refine call_pure [] (less_ok (raw c (f + (2 * r + 1))) (raw c (f + (2 * r + 2))) (hB_c.at _) (hB_c.at _)) rfl rfl rfl ?_ ?_ ?_
  ·and_intros<;>try first|exact trivial|exact rfl
  ·and_intros<;>try first|exact trivial|exact rfl
   show raw c (f + (2 * r + 1)) = c.getD (IntKind.i64.wrap ((f : Int) + IntKind.i64.wrap (IntKind.i64.wrap (2 * (r : Int)) + 1))).toNat 0
   rw [m1];rfl
   show raw c (f + (2 * r + 2)) = c.getD (IntKind.i64.wrap (IntKind.i64.wrap ((f : Int) + IntKind.i64.wrap (IntKind.i64.wrap (2 * (r : Int)) + 1)) + 1)).toNat 0
   rw [m2];rfl
  intro v hv _
  subst hv
  intro _;refine ⟨by kernel_rfl,?_⟩
  intro _;refine ⟨fun g=>?_,fun g=>?_⟩
  ·have g3 : at' c (f + (2 * r + 1)) < at' c (f + (2 * r + 2)) := nr_lt.1 (of_decide_eq_true (show decide (nr (raw c (f + (2 * r + 1))) (raw c (f + (2 * r + 2))) < 0) = true from g))
   have hm : ∀ m,m < hi→1≤m→(m - 1) / 2 = r→at' c (f + m)≤at' c (f + (2 * r + 2)) := fun m k1 k2 k3=>by
    rcases (show m = 2 * r + 1 ∨ m = 2 * r + 2 by omega) with e | e <;> subst e <;> omega
   have eC : IntKind.i64.wrap (IntKind.i64.wrap (IntKind.i64.wrap (2 * (r : Int)) + 1) + 1) = ((2 * r + 2 : Nat) : Int) := by exact e2
   have eP : IntKind.i64.wrap ((f : Int) + (r : Int)) = ((f + r : Nat) : Int) := by rw [wrapS _ ⟨by omega,by omega⟩];omega
   have eQ : IntKind.i64.wrap ((f : Int) + IntKind.i64.wrap (IntKind.i64.wrap (IntKind.i64.wrap (2 * (r : Int)) + 1) + 1)) = ((f + 2 * r + 2 : Nat) : Int) := by rw [eC,wrapS _ ⟨by omega,by omega⟩];omega
   have nP : (IntKind.i64.wrap ((f : Int) + (r : Int))).toNat = f + r := by rw [eP];rfl
   have nQ : (IntKind.i64.wrap ((f : Int) + IntKind.i64.wrap (IntKind.i64.wrap (IntKind.i64.wrap (2 * (r : Int)) + 1) + 1))).toNat = f + 2 * r + 2 := by rw [eQ];rfl
   have iP : 0≤IntKind.i64.wrap ((f : Int) + (r : Int))∧IntKind.i64.wrap ((f : Int) + (r : Int)) < (l.length : Int) := by rw [eP];omega
   have iQ : 0≤IntKind.i64.wrap ((f : Int) + IntKind.i64.wrap (IntKind.i64.wrap (IntKind.i64.wrap (2 * (r : Int)) + 1) + 1))∧IntKind.i64.wrap ((f : Int) + IntKind.i64.wrap (IntKind.i64.wrap (IntKind.i64.wrap (2 * (r : Int)) + 1) + 1)) < (l.length : Int) := by rw [eQ];omega
   have jP : (IntKind.i64.wrap ((f : Int) + (r : Int))).toNat < c.length := by rw [nP];omega
   have jQ : (IntKind.i64.wrap ((f : Int) + IntKind.i64.wrap (IntKind.i64.wrap (IntKind.i64.wrap (2 * (r : Int)) + 1) + 1))).toNat < c.length := by rw [nQ];omega
   intro _;refine ⟨iP,?_⟩
   intro _;refine ⟨jP,?_⟩
   intro _;refine ⟨iQ,?_⟩
   intro _;refine ⟨jQ,?_⟩
   intro _
   refine Or.inl ?_
   intro _
   refine call_pure [] (less_ok (raw c (f + r)) (raw c (f + (2 * r + 2))) (hB_c.at _) (hB_c.at _)) rfl rfl rfl ?_ ?_ ?_
   ·and_intros<;>try first|exact trivial|exact rfl
   ·and_intros<;>try first|exact trivial|exact rfl
    show raw c (f + r) = c.getD (IntKind.i64.wrap ((f : Int) + (r : Int))).toNat 0
    rw [nP];rfl
    show raw c (f + (2 * r + 2)) = c.getD (IntKind.i64.wrap ((f : Int) + IntKind.i64.wrap (IntKind.i64.wrap (IntKind.i64.wrap (2 * (r : Int)) + 1) + 1))).toNat 0
    rw [nQ];rfl
   intro v hv _
   subst hv
   intro _;refine ⟨by kernel_rfl,?_⟩
   intro _;refine ⟨fun g=>?_,fun g=>?_⟩
   ·have g2 : (!decide (nr (raw c (f + r)) (raw c (f + (2 * r + 2))) < 0)) = true := g
    rw [Bool.not_eq_true'] at g2
    have g2 : ¬ at' c (f + r) < at' c (f + (2 * r + 2)) := fun q=>absurd (nr_lt.2 q) (of_decide_eq_false g2)
    intro _
    exact ⟨c,⟨hc,hS.done hm (by omega)⟩,rfl,rfl⟩
   have g2 : (!decide (nr (raw c (f + r)) (raw c (f + (2 * r + 2))) < 0)) = false := g
   rw [Bool.not_eq_false'] at g2
   have g2 : at' c (f + r) < at' c (f + (2 * r + 2)) := nr_lt.1 (of_decide_eq_true g2)
   intro _;refine ⟨iQ,?_⟩
   intro _;refine ⟨jQ,?_⟩
   intro _;refine ⟨iP,?_⟩
   intro _;refine ⟨jP,?_⟩
   intro _;refine ⟨iP,?_⟩
   intro _;refine ⟨jP,?_⟩
   intro _;refine ⟨iQ,?_⟩
   intro _;refine ⟨show (IntKind.i64.wrap ((f : Int) + IntKind.i64.wrap (IntKind.i64.wrap (IntKind.i64.wrap (2 * (r : Int)) + 1) + 1))).toNat < (c.set _ _).length by rw [List.length_set];exact jQ,?_⟩
   intro _;refine ⟨by kernel_rfl,?_⟩
   refine ⟨⟨(2 * r + 2,sw c (f + r) (f + (2 * r + 2))),hc.trans (sw_pm ⟨by omega,by omega⟩ ⟨by omega,by omega⟩ (by omega)),hS.step (by omega) (by omega) (by omega) (by omega) hm g2,by show 2 * r + 2 < hi;omega⟩,by show hi - (2 * r + 2) < hi - r;omega,th [] 1,rfl,rfl,rfl,rfl,rfl,rfl,?_,?_⟩
   ·and_intros<;>try first|exact trivial|exact rfl
    exact eC.symm
   ·and_intros<;>try first|exact trivial|exact rfl
    show sw c (f + r) (f + (2 * r + 2)) = (c.set (IntKind.i64.wrap ((f : Int) + (r : Int))).toNat (c.getD (IntKind.i64.wrap ((f : Int) + IntKind.i64.wrap (IntKind.i64.wrap (IntKind.i64.wrap (2 * (r : Int)) + 1) + 1))).toNat 0)).set (IntKind.i64.wrap ((f : Int) + IntKind.i64.wrap (IntKind.i64.wrap (IntKind.i64.wrap (2 * (r : Int)) + 1) + 1))).toNat (c.getD (IntKind.i64.wrap ((f : Int) + (r : Int))).toNat 0)
    rw [nP,nQ];rfl
  have g3 : ¬ at' c (f + (2 * r + 1)) < at' c (f + (2 * r + 2)) := fun q=>absurd (nr_lt.2 q) (of_decide_eq_false (show decide (nr (raw c (f + (2 * r + 1))) (raw c (f + (2 * r + 2))) < 0) = false from g))
  have hm : ∀ m,m < hi→1≤m→(m - 1) / 2 = r→at' c (f + m)≤at' c (f + (2 * r + 1)) := fun m k1 k2 k3=>by
   rcases (show m = 2 * r + 1 ∨ m = 2 * r + 2 by omega) with e | e <;> subst e <;> omega
  have eC : IntKind.i64.wrap (IntKind.i64.wrap (2 * (r : Int)) + 1) = ((2 * r + 1 : Nat) : Int) := by exact e1
  have eP : IntKind.i64.wrap ((f : Int) + (r : Int)) = ((f + r : Nat) : Int) := by rw [wrapS _ ⟨by omega,by omega⟩];omega
  have eQ : IntKind.i64.wrap ((f : Int) + IntKind.i64.wrap (IntKind.i64.wrap (2 * (r : Int)) + 1)) = ((f + 2 * r + 1 : Nat) : Int) := by rw [eC,wrapS _ ⟨by omega,by omega⟩];omega
  have nP : (IntKind.i64.wrap ((f : Int) + (r : Int))).toNat = f + r := by rw [eP];rfl
  have nQ : (IntKind.i64.wrap ((f : Int) + IntKind.i64.wrap (IntKind.i64.wrap (2 * (r : Int)) + 1))).toNat = f + 2 * r + 1 := by rw [eQ];rfl
  have iP : 0≤IntKind.i64.wrap ((f : Int) + (r : Int))∧IntKind.i64.wrap ((f : Int) + (r : Int)) < (l.length : Int) := by rw [eP];omega
  have iQ : 0≤IntKind.i64.wrap ((f : Int) + IntKind.i64.wrap (IntKind.i64.wrap (2 * (r : Int)) + 1))∧IntKind.i64.wrap ((f : Int) + IntKind.i64.wrap (IntKind.i64.wrap (2 * (r : Int)) + 1)) < (l.length : Int) := by rw [eQ];omega
  have jP : (IntKind.i64.wrap ((f : Int) + (r : Int))).toNat < c.length := by rw [nP];omega
  have jQ : (IntKind.i64.wrap ((f : Int) + IntKind.i64.wrap (IntKind.i64.wrap (2 * (r : Int)) + 1))).toNat < c.length := by rw [nQ];omega
  intro _;refine ⟨iP,?_⟩
  intro _;refine ⟨jP,?_⟩
  intro _;refine ⟨iQ,?_⟩
  intro _;refine ⟨jQ,?_⟩
  intro _
  refine Or.inl ?_
  intro _
  refine call_pure [] (less_ok (raw c (f + r)) (raw c (f + (2 * r + 1))) (hB_c.at _) (hB_c.at _)) rfl rfl rfl ?_ ?_ ?_
  ·and_intros<;>try first|exact trivial|exact rfl
  ·and_intros<;>try first|exact trivial|exact rfl
   show raw c (f + r) = c.getD (IntKind.i64.wrap ((f : Int) + (r : Int))).toNat 0
   rw [nP];rfl
   show raw c (f + (2 * r + 1)) = c.getD (IntKind.i64.wrap ((f : Int) + IntKind.i64.wrap (IntKind.i64.wrap (2 * (r : Int)) + 1))).toNat 0
   rw [nQ];rfl
  intro v hv _
  subst hv
  intro _;refine ⟨by kernel_rfl,?_⟩
  intro _;refine ⟨fun g=>?_,fun g=>?_⟩
  ·have g2 : (!decide (nr (raw c (f + r)) (raw c (f + (2 * r + 1))) < 0)) = true := g
   rw [Bool.not_eq_true'] at g2
   have g2 : ¬ at' c (f + r) < at' c (f + (2 * r + 1)) := fun q=>absurd (nr_lt.2 q) (of_decide_eq_false g2)
   intro _
   exact ⟨c,⟨hc,hS.done hm (by omega)⟩,rfl,rfl⟩
  have g2 : (!decide (nr (raw c (f + r)) (raw c (f + (2 * r + 1))) < 0)) = false := g
  rw [Bool.not_eq_false'] at g2
  have g2 : at' c (f + r) < at' c (f + (2 * r + 1)) := nr_lt.1 (of_decide_eq_true g2)
  intro _;refine ⟨iQ,?_⟩
  intro _;refine ⟨jQ,?_⟩
  intro _;refine ⟨iP,?_⟩
  intro _;refine ⟨jP,?_⟩
  intro _;refine ⟨iP,?_⟩
  intro _;refine ⟨jP,?_⟩
  intro _;refine ⟨iQ,?_⟩
  intro _;refine ⟨show (IntKind.i64.wrap ((f : Int) + IntKind.i64.wrap (IntKind.i64.wrap (2 * (r : Int)) + 1))).toNat < (c.set _ _).length by rw [List.length_set];exact jQ,?_⟩
  intro _;refine ⟨by kernel_rfl,?_⟩
  refine ⟨⟨(2 * r + 1,sw c (f + r) (f + (2 * r + 1))),hc.trans (sw_pm ⟨by omega,by omega⟩ ⟨by omega,by omega⟩ (by omega)),hS.step (by omega) (by omega) (by omega) (by omega) hm g2,by show 2 * r + 1 < hi;omega⟩,by show hi - (2 * r + 1) < hi - r;omega,th [] 1,rfl,rfl,rfl,rfl,rfl,rfl,?_,?_⟩
  ·and_intros<;>try first|exact trivial|exact rfl
   exact eC.symm
  ·and_intros<;>try first|exact trivial|exact rfl
   show sw c (f + r) (f + (2 * r + 1)) = (c.set (IntKind.i64.wrap ((f : Int) + (r : Int))).toNat (c.getD (IntKind.i64.wrap ((f : Int) + IntKind.i64.wrap (IntKind.i64.wrap (2 * (r : Int)) + 1))).toNat 0)).set (IntKind.i64.wrap ((f : Int) + IntKind.i64.wrap (IntKind.i64.wrap (2 * (r : Int)) + 1))).toNat (c.getD (IntKind.i64.wrap ((f : Int) + (r : Int))).toNat 0)
   rw [nP,nQ];rfl
 have g1 := of_decide_eq_false (show decide (IntKind.i64.wrap (IntKind.i64.wrap (IntKind.i64.wrap (2 * (r : Int)) + 1) + 1) < (hi : Int)) = false from g)
 have e2 : IntKind.i64.wrap (IntKind.i64.wrap (IntKind.i64.wrap (2 * (r : Int)) + 1) + 1) = ((2 * r + 2 : Nat) : Int) := by rw [e1,wrapS _ ⟨by omega,by omega⟩];omega
 rw [e2] at g1
 have hm : ∀ m,m < hi→1≤m→(m - 1) / 2 = r→at' c (f + m)≤at' c (f + (2 * r + 1)) := fun m k1 k2 k3=>by
  rcases (show m = 2 * r + 1 ∨ m = 2 * r + 2 by omega) with e | e <;> subst e <;> omega
 intro _;refine ⟨by kernel_rfl,?_⟩
 have eC : IntKind.i64.wrap (IntKind.i64.wrap (2 * (r : Int)) + 1) = ((2 * r + 1 : Nat) : Int) := by exact e1
 have eP : IntKind.i64.wrap ((f : Int) + (r : Int)) = ((f + r : Nat) : Int) := by rw [wrapS _ ⟨by omega,by omega⟩];omega
 have eQ : IntKind.i64.wrap ((f : Int) + IntKind.i64.wrap (IntKind.i64.wrap (2 * (r : Int)) + 1)) = ((f + 2 * r + 1 : Nat) : Int) := by rw [eC,wrapS _ ⟨by omega,by omega⟩];omega
 have nP : (IntKind.i64.wrap ((f : Int) + (r : Int))).toNat = f + r := by rw [eP];rfl
 have nQ : (IntKind.i64.wrap ((f : Int) + IntKind.i64.wrap (IntKind.i64.wrap (2 * (r : Int)) + 1))).toNat = f + 2 * r + 1 := by rw [eQ];rfl
 have iP : 0≤IntKind.i64.wrap ((f : Int) + (r : Int))∧IntKind.i64.wrap ((f : Int) + (r : Int)) < (l.length : Int) := by rw [eP];omega
 have iQ : 0≤IntKind.i64.wrap ((f : Int) + IntKind.i64.wrap (IntKind.i64.wrap (2 * (r : Int)) + 1))∧IntKind.i64.wrap ((f : Int) + IntKind.i64.wrap (IntKind.i64.wrap (2 * (r : Int)) + 1)) < (l.length : Int) := by rw [eQ];omega
 have jP : (IntKind.i64.wrap ((f : Int) + (r : Int))).toNat < c.length := by rw [nP];omega
 have jQ : (IntKind.i64.wrap ((f : Int) + IntKind.i64.wrap (IntKind.i64.wrap (2 * (r : Int)) + 1))).toNat < c.length := by rw [nQ];omega
 intro _;refine ⟨iP,?_⟩
 intro _;refine ⟨jP,?_⟩
 intro _;refine ⟨iQ,?_⟩
 intro _;refine ⟨jQ,?_⟩
 intro _
 refine Or.inl ?_
 intro _
 refine call_pure [] (less_ok (raw c (f + r)) (raw c (f + (2 * r + 1))) (hB_c.at _) (hB_c.at _)) rfl rfl rfl ?_ ?_ ?_
 ·and_intros<;>try first|exact trivial|exact rfl
 ·and_intros<;>try first|exact trivial|exact rfl
  show raw c (f + r) = c.getD (IntKind.i64.wrap ((f : Int) + (r : Int))).toNat 0
  rw [nP];rfl
  show raw c (f + (2 * r + 1)) = c.getD (IntKind.i64.wrap ((f : Int) + IntKind.i64.wrap (IntKind.i64.wrap (2 * (r : Int)) + 1))).toNat 0
  rw [nQ];rfl
 intro v hv _
 subst hv
 intro _;refine ⟨by kernel_rfl,?_⟩
 intro _;refine ⟨fun g=>?_,fun g=>?_⟩
 ·have g2 : (!decide (nr (raw c (f + r)) (raw c (f + (2 * r + 1))) < 0)) = true := g
  rw [Bool.not_eq_true'] at g2
  have g2 : ¬ at' c (f + r) < at' c (f + (2 * r + 1)) := fun q=>absurd (nr_lt.2 q) (of_decide_eq_false g2)
  intro _
  exact ⟨c,⟨hc,hS.done hm (by omega)⟩,rfl,rfl⟩
 have g2 : (!decide (nr (raw c (f + r)) (raw c (f + (2 * r + 1))) < 0)) = false := g
 rw [Bool.not_eq_false'] at g2
 have g2 : at' c (f + r) < at' c (f + (2 * r + 1)) := nr_lt.1 (of_decide_eq_true g2)
 intro _;refine ⟨iQ,?_⟩
 intro _;refine ⟨jQ,?_⟩
 intro _;refine ⟨iP,?_⟩
 intro _;refine ⟨jP,?_⟩
 intro _;refine ⟨iP,?_⟩
 intro _;refine ⟨jP,?_⟩
 intro _;refine ⟨iQ,?_⟩
 intro _;refine ⟨show (IntKind.i64.wrap ((f : Int) + IntKind.i64.wrap (IntKind.i64.wrap (2 * (r : Int)) + 1))).toNat < (c.set _ _).length by rw [List.length_set];exact jQ,?_⟩
 intro _;refine ⟨by kernel_rfl,?_⟩
 refine ⟨⟨(2 * r + 1,sw c (f + r) (f + (2 * r + 1))),hc.trans (sw_pm ⟨by omega,by omega⟩ ⟨by omega,by omega⟩ (by omega)),hS.step (by omega) (by omega) (by omega) (by omega) hm g2,by show 2 * r + 1 < hi;omega⟩,by show hi - (2 * r + 1) < hi - r;omega,th [] 1,rfl,rfl,rfl,rfl,rfl,rfl,?_,?_⟩
 ·and_intros<;>try first|exact trivial|exact rfl
  exact eC.symm
 ·and_intros<;>try first|exact trivial|exact rfl
  show sw c (f + r) (f + (2 * r + 1)) = (c.set (IntKind.i64.wrap ((f : Int) + (r : Int))).toNat (c.getD (IntKind.i64.wrap ((f : Int) + IntKind.i64.wrap (IntKind.i64.wrap (2 * (r : Int)) + 1))).toNat 0)).set (IntKind.i64.wrap ((f : Int) + IntKind.i64.wrap (IntKind.i64.wrap (2 * (r : Int)) + 1))).toNat (c.getD (IntKind.i64.wrap ((f : Int) + (r : Int))).toNat 0)
  rw [nP,nQ];rfl
theorem mut1 {y : Nat} {c l' : List Int} {h' : H} (hd : Dat l' h') : mutNew [(0,some y)] h'.l (DA c) = some [(y,.arr [.int .i64] .grow (.ints l'))] := by
 unfold Dat at hd
 simp [mutNew,Ob.own,hd,plainO]
 rfl
theorem Hp.max {f n : Nat} {c : List Int} (h : Hp f 0 n c) : ∀ m,m < n→at' c (f + m)≤at' c f := by
 intro m
 induction m using Nat.strongRecOn with
 | _ m ih =>
  intro hm
  by_cases e : m = 0
  ·subst e;exact Int.le_refl _
  ·have h1 := h m hm (by omega)
   have h2 := ih ((m - 1) / 2) (by omega) (by omega)
   omega
structure Tl (a e hi : Nat) (c : List Int) : Prop where
 s : ∀ p q,e≤p→p < q→q < hi→at' c (a + p)≤at' c (a + q)
 t : ∀ p q,p < e→e≤q→q < hi→at' c (a + p)≤at' c (a + q)
theorem Tl.step {a e hi : Nat} {c l' : List Int} (hT : Tl a (e + 1) hi c) (hh : Hp a 0 (e + 1) c) (hb : a + hi≤c.length) (he : e < hi) (hp : Pm a (a + e) (sw c a (a + e)) l') : Tl a e hi l' := by
 have X : ∀ k,at' (sw c a (a + e)) k = if a + e = k then at' c a else if a = k then at' c (a + e) else at' c k := fun k=>at_sw (by omega) (by omega) k
 have out : ∀ q,e < q→at' l' (a + q) = at' c (a + q) := fun q h=>by
  rw [hp.out _ (.inr (by omega)),X,if_neg (by omega),if_neg (by omega)]
 have top : at' l' (a + e) = at' c a := by rw [hp.out _ (.inr (by omega)),X,if_pos rfl]
 have bd : ∀ B,(∀ p,p < e + 1→at' c (a + p)≤B)→∀ p,p < e→at' l' (a + p)≤B := fun B hB p hpe =>
  hp.all (by omega) (by rw [sw_len];omega) (fun x=>x≤B) (fun k k1 k2=>by
   rw [X,if_neg (by omega)]
   by_cases e2 : a = k
   ·rw [if_pos e2];exact hB e (by omega)
   ·rw [if_neg e2];have := hB (k - a) (by omega);rw [show a + (k - a) = k by omega] at this;exact this) (a + p) (by omega) (by omega)
 refine ⟨fun p q h1 h2 h3=>?_,fun p q h1 h2 h3=>?_⟩
 ·rw [out q (by omega)]
  by_cases e2 : p = e
  ·subst e2;rw [top];have := hT.t 0 q (by omega) (by omega) h3;simpa using this
  ·rw [out p (by omega)];exact hT.s p q (by omega) h2 h3
 ·by_cases e2 : q = e
  ·subst e2;rw [top];exact bd _ (fun p hp=>hh.max p hp) p h1
  ·rw [out q (by omega)];exact bd _ (fun p hp=>hT.t p q hp (by omega) h3) p h1
set_option maxHeartbeats 2000000 in
theorem heap_ok (l : List Int) (hB_l : Bd l) (a b : Nat) (hab : a < b) (hb : b≤l.length) (hl : l.length≤4096) : SemF Try.prog 87 [.grw 0 l.length,.int .i64 a,.int .i64 b,.fn 74 [] []] ⟨1,0,DA l⟩ (fun v h'=>∃ l',(Pm a b l l'∧Srt l' a b)∧v = .tup []∧Dat l' h') := by
 obtain ⟨hi,hhi⟩ : ∃ hi,hi = b - a := ⟨_,rfl⟩
 have e0 : IntKind.i64.wrap ((b : Int) - (a : Int)) = ((hi : Nat) : Int) := by rw [wrapS _ ⟨by omega,by omega⟩];omega
 refine enter tt_ok Try.func87 (nt := 60) (cd := body Try.f87) rfl rfl rfl rfl ?_
 intro _;refine ⟨by omega,?_⟩
 intro _
 refine meet2 [10,11] [0] 1 (.exit 0) (fun _ : { c : List Int // Pm a b l c∧Hp a 0 hi c }=>[(10,.int .i64 (hi : Nat)),(11,.int .i64 (-1))]) (fun x=>DA x.1) ?_
 intro _
 refine ⟨?_,fun ⟨c,hc,hh⟩=>?_⟩
 ·refine loop2 tt_ok [10,11] [0] 1 (fun x : { x : Nat × List Int // Pm a b l x.2∧Hp a x.1 hi x.2∧x.1≤hi }=>[(10,.int .i64 (hi : Nat)),(11,.int .i64 ((x.1.1 : Int) - 1))]) (fun x=>DA x.1.2) (fun x=>x.1.1) ⟨((hi - 1) / 2 + 1,l),Pm.refl _ _ _,fun m h1 h2=>by omega,by show (hi - 1) / 2 + 1≤hi;omega⟩ ?_
  intro _
  refine ⟨⟨th [] 1,rfl,rfl,rfl,rfl,rfl,rfl,?_,?_⟩,?_⟩
  ·and_intros<;>try first|exact trivial|exact rfl
   ·exact e0.symm
   ·show (((hi - 1) / 2 + 1 : Nat) : Int) - 1 = IntKind.i64.wrap ((IntKind.i64.wrap (IntKind.i64.wrap ((b : Int) - (a : Int)) - 1)).tdiv 2)
    rw [e0,wrapS ((hi : Int) - 1) ⟨by omega,by omega⟩,Int.tdiv_eq_ediv_of_nonneg (by omega),wrapS _ ⟨by omega,by omega⟩]
    omega
  ·and_intros<;>try first|exact trivial|exact rfl
  intro ⟨⟨e,c⟩,hc,hh,hle⟩
  have hc : Pm a b l c := hc
  have hcl : c.length = l.length := hc.len
  have hB_c : Bd c := hc.bd hB_l
  have hh : Hp a e hi c := hh
  have hle : e≤hi := hle
  intro _;refine ⟨fun g=>?_,fun g=>?_⟩
  rotate_left
  ·have g := of_decide_eq_false (show decide ((e : Int) - 1 ≥ 0) = false from g)
   have e0 : e = 0 := by omega
   subst e0
   refine Or.inl ⟨⟨c,hc,hh⟩,rfl,th [] 1,rfl,rfl,rfl,rfl,rfl,rfl,?_,?_⟩
   ·and_intros<;>try first|exact trivial|exact rfl
   ·and_intros<;>try first|exact trivial|exact rfl
  have g := of_decide_eq_true (show decide ((e : Int) - 1 ≥ 0) = true from g)
  intro _
  refine call_mut [(0,some 0)] (sift_ok c hB_c (e - 1) hi a (by omega) (by omega) (by omega) (by rw [show e - 1 + 1 = e by omega];exact hh)) rfl rfl rfl rfl ?_ ?_ ?_
  ·and_intros<;>try first|exact trivial|exact rfl
  ·and_intros<;>try first|exact trivial|exact rfl
   ·exact hcl
   ·show ((e - 1 : Nat) : Int) = (e : Int) - 1
    omega
  intro v h' ⟨l',⟨hp,hh2⟩,hv,hd⟩
  subst hv
  refine ⟨_,mut1 hd,rfl,?_⟩
  refine ⟨⟨(e - 1,l'),hc.trans (hp.wide (Nat.le_refl _) (by omega)),hh2,by show e - 1≤hi;omega⟩,by show e - 1 < e;omega,th [] 1,rfl,rfl,rfl,rfl,rfl,rfl,?_,?_⟩
  ·and_intros<;>try first|exact trivial|exact rfl
   show ((e - 1 : Nat) : Int) - 1 = IntKind.i64.wrap ((e : Int) - 1 - 1)
   rw [wrapS _ ⟨by omega,by omega⟩];omega
  ·and_intros<;>try first|exact trivial|exact rfl
 have hc : Pm a b l c := hc
 have hcl : c.length = l.length := hc.len
 have hB_c : Bd c := hc.bd hB_l
 have hh : Hp a 0 hi c := hh
 intro _
 refine loop2 tt_ok [10,12] [0] 1 (fun x : { x : Nat × List Int // Pm a b l x.2∧Hp a 0 x.1 x.2∧Tl a x.1 hi x.2∧x.1≤hi }=>[(10,.int .i64 (hi : Nat)),(12,.int .i64 ((x.1.1 : Int) - 1))]) (fun x=>DA x.1.2) (fun x=>x.1.1) ⟨(hi,c),hc,hh,⟨fun p q h1 h2 h3=>by omega,fun p q h1 h2 h3=>by omega⟩,Nat.le_refl _⟩ ?_
 intro _
 refine ⟨⟨th [] 1,rfl,rfl,rfl,rfl,rfl,rfl,?_,?_⟩,?_⟩
 ·and_intros<;>try first|exact trivial|exact rfl
  show ((hi : Nat) : Int) - 1 = IntKind.i64.wrap ((hi : Int) - 1)
  rw [wrapS _ ⟨by omega,by omega⟩]
 ·and_intros<;>try first|exact trivial|exact rfl
 intro ⟨⟨e,c⟩,hc,hh,hT,hle⟩
 have hc : Pm a b l c := hc
 have hcl : c.length = l.length := hc.len
 have hB_c : Bd c := hc.bd hB_l
 have hh : Hp a 0 e c := hh
 have hT : Tl a e hi c := hT
 have hle : e≤hi := hle
 intro _;refine ⟨fun g=>?_,fun g=>?_⟩
 rotate_left
 ·have g := of_decide_eq_false (show decide ((e : Int) - 1 ≥ 0) = false from g)
  have e0 : e = 0 := by omega
  subst e0
  intro _
  refine ⟨c,⟨hc,fun p q h1 h2 h3=>?_⟩,rfl,rfl⟩
  have := hT.s (p - a) (q - a) (by omega) (by omega) (by omega)
  rw [show a + (p - a) = p by omega,show a + (q - a) = q by omega] at this
  exact this
 have g := of_decide_eq_true (show decide ((e : Int) - 1 ≥ 0) = true from g)
 have eQ : IntKind.i64.wrap ((a : Int) + ((e : Int) - 1)) = ((a + (e - 1) : Nat) : Int) := by rw [wrapS _ ⟨by omega,by omega⟩];omega
 have nQ : (IntKind.i64.wrap ((a : Int) + ((e : Int) - 1))).toNat = a + (e - 1) := by rw [eQ];rfl
 have iP : 0≤(a : Int)∧(a : Int) < (l.length : Int) := by omega
 have iQ : 0≤IntKind.i64.wrap ((a : Int) + ((e : Int) - 1))∧IntKind.i64.wrap ((a : Int) + ((e : Int) - 1)) < (l.length : Int) := by rw [eQ];omega
 have jP : (a : Int).toNat < c.length := by omega
 have jQ : (IntKind.i64.wrap ((a : Int) + ((e : Int) - 1))).toNat < c.length := by rw [nQ];omega
 intro _;refine ⟨iQ,?_⟩
 intro _;refine ⟨jQ,?_⟩
 intro _;refine ⟨iP,?_⟩
 intro _;refine ⟨jP,?_⟩
 intro _;refine ⟨iP,?_⟩
 intro _;refine ⟨jP,?_⟩
 intro _;refine ⟨iQ,?_⟩
 intro _;refine ⟨show (IntKind.i64.wrap ((a : Int) + ((e : Int) - 1))).toNat < (c.set _ _).length by rw [List.length_set];exact jQ,?_⟩
 intro _;refine ⟨by kernel_rfl,?_⟩
 have hsw : Pm a b c (sw c a (a + (e - 1))) := sw_pm ⟨by omega,by omega⟩ ⟨by omega,by omega⟩ (by omega)
 have X : ∀ k,at' (sw c a (a + (e - 1))) k = if a + (e - 1) = k then at' c a else if a = k then at' c (a + (e - 1)) else at' c k := fun k=>at_sw (by omega) (by omega) k
 intro _
 refine call_mut [(0,some 0)] (sift_ok (sw c a (a + (e - 1))) (hsw.bd hB_c) 0 (e - 1) a (by rw [sw_len];omega) (by rw [sw_len];omega) (by omega) (fun m h1 h2=>by
  rw [X,X,if_neg (by omega),if_neg (by omega),if_neg (by omega),if_neg (by omega)]
  exact hh m (by omega) (by omega))) rfl rfl rfl rfl ?_ ?_ ?_
 ·and_intros<;>try first|exact trivial|exact rfl
  show sw c a (a + (e - 1)) = (c.set ((a : Nat) : Int).toNat (c.getD (IntKind.i64.wrap ((a : Int) + ((e : Int) - 1))).toNat 0)).set (IntKind.i64.wrap ((a : Int) + ((e : Int) - 1))).toNat (c.getD ((a : Nat) : Int).toNat 0)
  rw [nQ];rfl
 ·and_intros<;>try first|exact trivial|exact rfl
  ·rw [sw_len];exact hcl
  ·show ((e - 1 : Nat) : Int) = (e : Int) - 1
   omega
 intro v h' ⟨l',⟨hp,hh2⟩,hv,hd⟩
 subst hv
 refine ⟨_,mut1 hd,rfl,?_⟩
 refine ⟨⟨(e - 1,l'),hc.trans (hsw.trans (hp.wide (Nat.le_refl _) (by omega))),hh2,Tl.step (by rw [show e - 1 + 1 = e by omega];exact hT) (by rw [show e - 1 + 1 = e by omega];exact hh) (by omega) (by omega) hp,by show e - 1≤hi;omega⟩,by show e - 1 < e;omega,th [] 1,rfl,rfl,rfl,rfl,rfl,rfl,?_,?_⟩
 ·and_intros<;>try first|exact trivial|exact rfl
  show ((e - 1 : Nat) : Int) - 1 = IntKind.i64.wrap ((e : Int) - 1 - 1)
  rw [wrapS _ ⟨by omega,by omega⟩];omega
 ·and_intros<;>try first|exact trivial|exact rfl
abbrev DB (l : List Int) (s : Int) : List (Nat × Ob) := [(0,.arr [.int .i64] .grow (.ints l)),(1,.cells [.int .i64 s])]
def Dt2 (l : List Int) (s : Int) (h : H) : Prop := Dat l h∧Go.Vm2.look h.l 1 = some (.cells [.int .i64 s])
theorem mut2 {y z : Nat} {c l' : List Int} {s s' : Int} {h' : H} (hd : Dt2 l' s' h') : mutNew [(0,some y),(1,some z)] h'.l (DB c s) = some [(y,.arr [.int .i64] .grow (.ints l')),(z,.cells [.int .i64 s'])] := by
 obtain ⟨h1,h2⟩ := hd
 unfold Dat at h1
 have e0 : Go.Vm2.look [((0 : Nat),some y),(1,some z)] 0 = some (some y) := rfl
 have e1 : Go.Vm2.look [((0 : Nat),some y),(1,some z)] 1 = some (some z) := rfl
 simp [mutNew,Ob.own,h1,h2,e0,e1,plainO,namelesss,nameless]
set_option maxHeartbeats 2000000 in
theorem order2_ok (l : List Int) (hB_l : Bd l) (s : Int) (a b : Nat) (ha : a < l.length) (hb : b < l.length) (hl : l.length≤4096) : SemF Try.prog 101 [.grw 0 l.length,.int .i64 a,.int .i64 b,.ptr 1 0,.fn 74 [] []] ⟨2,0,DB l s⟩ (fun v h'=>∃ s' x y,((x = a∧y = b) ∨ (x = b∧y = a))∧v = .tup [.int .i64 (x : Nat),.int .i64 (y : Nat)]∧Dt2 l s' h') := by
 refine enter tt_ok Try.func101 (nt := 32) (cd := body Try.f101) rfl rfl rfl rfl ?_
 intro _;refine ⟨(show 0≤((b : Nat) : Int)∧((b : Nat) : Int) < (l.length : Int) by omega),?_⟩
 intro _;refine ⟨(show ((b : Nat) : Int).toNat < l.length by omega),?_⟩
 intro _;refine ⟨(show 0≤((a : Nat) : Int)∧((a : Nat) : Int) < (l.length : Int) by omega),?_⟩
 intro _;refine ⟨(show ((a : Nat) : Int).toNat < l.length by omega),?_⟩
 intro _
 refine Or.inl ?_
 intro _
 refine call_pure [] (less_ok (raw l b) (raw l a) (hB_l.at _) (hB_l.at _)) rfl rfl rfl ?_ ?_ ?_
 ·and_intros<;>try first|exact trivial|exact rfl
 ·and_intros<;>try first|exact trivial|exact rfl
 intro v hv _
 subst hv
 intro _;refine ⟨by kernel_rfl,?_⟩
 intro _;refine ⟨fun g=>?_,fun g=>?_⟩
 ·intro _
  exact ⟨_,b,a,.inr ⟨rfl,rfl⟩,rfl,rfl,rfl⟩
 ·intro _
  exact ⟨_,a,b,.inl ⟨rfl,rfl⟩,rfl,rfl,rfl⟩
set_option maxHeartbeats 2000000 in
theorem median_ok (l : List Int) (hB_l : Bd l) (s : Int) (a b c : Nat) (ha : a < l.length) (hb : b < l.length) (hc : c < l.length) (hl : l.length≤4096) : SemF Try.prog 100 [.grw 0 l.length,.int .i64 a,.int .i64 b,.int .i64 c,.ptr 1 0,.fn 74 [] []] ⟨2,0,DB l s⟩ (fun v h'=>∃ s' m,(m = a ∨ m = b ∨ m = c)∧v = .int .i64 (m : Nat)∧Dt2 l s' h') := by
 refine enter tt_ok Try.func100 (nt := 41) (cd := body Try.f100) rfl rfl rfl rfl ?_
 intro _
 refine call_mut [(0,some 0),(1,some 1)] (order2_ok l hB_l s a b ha hb hl) rfl rfl rfl rfl ?_ ?_ ?_
 ·and_intros<;>try first|exact trivial|exact rfl
 ·and_intros<;>try first|exact trivial|exact rfl
 intro v h' ⟨s1,x1,y1,q1,hv,hd⟩
 subst hv
 refine ⟨_,mut2 hd,rfl,?_⟩
 intro _
 refine call_mut [(0,some 0),(1,some 1)] (order2_ok l hB_l s1 y1 c (by omega) (by omega) hl) rfl rfl rfl rfl ?_ ?_ ?_
 ·and_intros<;>try first|exact trivial|exact rfl
 ·and_intros<;>try first|exact trivial|exact rfl
 intro v h' ⟨s2,x2,y2,q2,hv,hd⟩
 subst hv
 refine ⟨_,mut2 hd,rfl,?_⟩
 intro _
 refine call_mut [(0,some 0),(1,some 1)] (order2_ok l hB_l s2 x1 x2 (by omega) (by omega) hl) rfl rfl rfl rfl ?_ ?_ ?_
 ·and_intros<;>try first|exact trivial|exact rfl
 ·and_intros<;>try first|exact trivial|exact rfl
 intro v h' ⟨s3,x3,y3,q3,hv,hd⟩
 subst hv
 refine ⟨_,mut2 hd,rfl,?_⟩
 intro _
 exact ⟨s3,y3,by omega,rfl,rfl,rfl⟩
set_option maxHeartbeats 2000000 in
theorem madj_ok (l : List Int) (hB_l : Bd l) (s : Int) (a : Nat) (h1 : 1≤a) (ha : a + 1 < l.length) (hl : l.length≤4096) : SemF Try.prog 99 [.grw 0 l.length,.int .i64 a,.ptr 1 0,.fn 74 [] []] ⟨2,0,DB l s⟩ (fun v h'=>∃ s' m,(a≤m + 1∧m≤a + 1)∧v = .int .i64 (m : Nat)∧Dt2 l s' h') := by
 refine enter tt_ok Try.func99 (nt := 18) (cd := body Try.f99) rfl rfl rfl rfl ?_
 intro _
 refine call_mut [(0,some 0),(1,some 1)] (median_ok l hB_l s (a - 1) a (a + 1) (by omega) (by omega) (by omega) hl) rfl rfl rfl rfl ?_ ?_ ?_
 ·and_intros<;>try first|exact trivial|exact rfl
 ·and_intros<;>try first|exact trivial|exact rfl
  ·show ((a - 1 : Nat) : Int) = IntKind.i64.wrap ((a : Int) - 1)
   rw [wrapS _ ⟨by omega,by omega⟩];omega
  ·show ((a + 1 : Nat) : Int) = IntKind.i64.wrap ((a : Int) + 1)
   rw [wrapS _ ⟨by omega,by omega⟩];omega
 intro v h' ⟨s1,m,q1,hv,hd⟩
 subst hv
 refine ⟨_,mut2 hd,rfl,?_⟩
 intro _
 exact ⟨s1,m,by omega,rfl,rfl,rfl⟩
set_option maxHeartbeats 2000000 in
theorem pivot_ok (l : List Int) (hB_l : Bd l) (a b : Nat) (hab : a + 12 < b) (hb : b≤l.length) (hl : l.length≤4096) : SemF Try.prog 89 [.grw 0 l.length,.int .i64 a,.int .i64 b,.fn 74 [] []] ⟨1,0,DA l⟩ (fun v h'=>∃ p k,(a≤p∧p < b)∧(k = (0 : Int) ∨ k = 1 ∨ k = 2)∧v = .tup [.int .i64 (p : Nat),.int .i64 k]∧Dat l h') := by
 obtain ⟨n,hn⟩ : ∃ n,n = b - a := ⟨_,rfl⟩
 have e0 : IntKind.i64.wrap ((b : Int) - (a : Int)) = ((n : Nat) : Int) := by rw [wrapS _ ⟨by omega,by omega⟩];omega
 obtain ⟨q,hq⟩ : ∃ q,q = n / 4 := ⟨_,rfl⟩
 have eq4 : IntKind.i64.wrap ((IntKind.i64.wrap ((b : Int) - (a : Int))).tdiv 4) = ((q : Nat) : Int) := by
  rw [e0,Int.tdiv_eq_ediv_of_nonneg (by omega),wrapS _ ⟨by omega,by omega⟩];omega
 have ei : IntKind.i64.wrap ((a : Int) + IntKind.i64.wrap (IntKind.i64.wrap ((IntKind.i64.wrap ((b : Int) - (a : Int))).tdiv 4) * 1)) = ((a + q : Nat) : Int) := by
  rw [eq4,wrapS ((q : Int) * 1) ⟨by omega,by omega⟩,wrapS _ ⟨by omega,by omega⟩];omega
 have ej : IntKind.i64.wrap ((a : Int) + IntKind.i64.wrap (IntKind.i64.wrap ((IntKind.i64.wrap ((b : Int) - (a : Int))).tdiv 4) * 2)) = ((a + 2 * q : Nat) : Int) := by
  rw [eq4,wrapS ((q : Int) * 2) ⟨by omega,by omega⟩,wrapS _ ⟨by omega,by omega⟩];omega
 have ek : IntKind.i64.wrap ((a : Int) + IntKind.i64.wrap (IntKind.i64.wrap ((IntKind.i64.wrap ((b : Int) - (a : Int))).tdiv 4) * 3)) = ((a + 3 * q : Nat) : Int) := by
  rw [eq4,wrapS ((q : Int) * 3) ⟨by omega,by omega⟩,wrapS _ ⟨by omega,by omega⟩];omega
 refine enter tt_ok Try.func89 (nt := 63) (cd := body Try.f89) rfl rfl rfl rfl ?_
 intro _;refine ⟨by omega,?_⟩
 intro _;refine ⟨by omega,?_⟩
 intro _;refine ⟨by omega,?_⟩
 intro _;refine ⟨fun g=>?_,fun g=>?_⟩
 rotate_left
 ·have g := of_decide_eq_false (show decide (IntKind.i64.wrap ((b : Int) - (a : Int)) ≥ 8) = false from g)
  rw [e0] at g
  omega
 intro _;refine ⟨fun g=>?_,fun g=>?_⟩
 ·have g := of_decide_eq_true (show decide (IntKind.i64.wrap ((b : Int) - (a : Int)) ≥ 50) = true from g)
  rw [e0] at g
  intro _
  refine call_mut [(0,some 0),(1,some 1)] (madj_ok l hB_l 0 (a + q) (by omega) (by omega) hl) rfl rfl rfl rfl ?_ ?_ ?_
  ·and_intros<;>try first|exact trivial|exact rfl
  ·and_intros<;>try first|exact trivial|exact rfl
   exact ei.symm
  intro v h' ⟨s1,i,q1,hv,hd⟩
  subst hv
  refine ⟨_,mut2 hd,rfl,?_⟩
  intro _
  refine call_mut [(0,some 0),(1,some 1)] (madj_ok l hB_l s1 (a + 2 * q) (by omega) (by omega) hl) rfl rfl rfl rfl ?_ ?_ ?_
  ·and_intros<;>try first|exact trivial|exact rfl
  ·and_intros<;>try first|exact trivial|exact rfl
   exact ej.symm
  intro v h' ⟨s2,j,q2,hv,hd⟩
  subst hv
  refine ⟨_,mut2 hd,rfl,?_⟩
  intro _
  refine call_mut [(0,some 0),(1,some 1)] (madj_ok l hB_l s2 (a + 3 * q) (by omega) (by omega) hl) rfl rfl rfl rfl ?_ ?_ ?_
  ·and_intros<;>try first|exact trivial|exact rfl
  ·and_intros<;>try first|exact trivial|exact rfl
   exact ek.symm
  intro v h' ⟨s3,k,q3,hv,hd⟩
  subst hv
  refine ⟨_,mut2 hd,rfl,?_⟩
  intro _
  refine call_mut [(0,some 0),(1,some 1)] (median_ok l hB_l s3 i j k (by omega) (by omega) (by omega) hl) rfl rfl rfl rfl ?_ ?_ ?_
  ·and_intros<;>try first|exact trivial|exact rfl
  ·and_intros<;>try first|exact trivial|exact rfl
  intro v h' ⟨s4,m,q4,hv,hd⟩
  subst hv
  refine ⟨_,mut2 hd,rfl,?_⟩
  have hm : a≤m∧m < b := by omega
  intro _;refine ⟨fun g=>?_,fun g=>?_⟩
  ·intro _
   exact ⟨m,1,hm,.inr (.inl rfl),rfl,rfl⟩
  intro _;refine ⟨fun g=>?_,fun g=>?_⟩
  ·intro _
   exact ⟨m,2,hm,.inr (.inr rfl),rfl,rfl⟩
  intro _
  exact ⟨m,0,hm,.inl rfl,rfl,rfl⟩
 have g := of_decide_eq_false (show decide (IntKind.i64.wrap ((b : Int) - (a : Int)) ≥ 50) = false from g)
 intro _
 refine call_mut [(0,some 0),(1,some 1)] (median_ok l hB_l 0 (a + q) (a + 2 * q) (a + 3 * q) (by omega) (by omega) (by omega) hl) rfl rfl rfl rfl ?_ ?_ ?_
 ·and_intros<;>try first|exact trivial|exact rfl
 ·and_intros<;>try first|exact trivial|exact rfl
  ·exact ei.symm
  ·exact ej.symm
  ·exact ek.symm
 intro v h' ⟨s4,m,q4,hv,hd⟩
 subst hv
 refine ⟨_,mut2 hd,rfl,?_⟩
 have hm : a≤m∧m < b := by omega
 intro _;refine ⟨fun g=>?_,fun g=>?_⟩
 ·intro _
  exact ⟨m,1,hm,.inr (.inl rfl),rfl,rfl⟩
 intro _;refine ⟨fun g=>?_,fun g=>?_⟩
 ·intro _
  exact ⟨m,2,hm,.inr (.inr rfl),rfl,rfl⟩
 intro _
 exact ⟨m,0,hm,.inl rfl,rfl,rfl⟩
theorem wrapU (n : Int) (h : 0≤n∧n < 18446744073709551616) : IntKind.u64.wrap n = n := by
 have : IntKind.u64.wrap n = n % 18446744073709551616 := by simp [IntKind.wrap,IntKind.bits,IntKind.signed]
 rw [this];omega
theorem wrapB (n : Int) (h : 0≤n∧n < 256) : IntKind.u8.wrap n = n := by
 have : IntKind.u8.wrap n = n % 256 := by simp [IntKind.wrap,IntKind.bits,IntKind.signed]
 rw [this];omega
def tab8 : List UInt8 := [0,1,2,2,3,3,3,3,4,4,4,4,4,4,4,4,5,5,5,5,5,5,5,5,5,5,5,5,5,5,5,5,6,6,6,6,6,6,6,6,6,6,6,6,6,6,6,6,6,6,6,6,6,6,6,6,6,6,6,6,6,6,6,6,7,7,7,7,7,7,7,7,7,7,7,7,7,7,7,7,7,7,7,7,7,7,7,7,7,7,7,7,7,7,7,7,7,7,7,7,7,7,7,7,7,7,7,7,7,7,7,7,7,7,7,7,7,7,7,7,7,7,7,7,7,7,7,7,8,8,8,8,8,8,8,8,8,8,8,8,8,8,8,8,8,8,8,8,8,8,8,8,8,8,8,8,8,8,8,8,8,8,8,8,8,8,8,8,8,8,8,8,8,8,8,8,8,8,8,8,8,8,8,8,8,8,8,8,8,8,8,8,8,8,8,8,8,8,8,8,8,8,8,8,8,8,8,8,8,8,8,8,8,8,8,8,8,8,8,8,8,8,8,8,8,8,8,8,8,8,8,8,8,8,8,8,8,8,8,8,8,8,8,8,8,8,8,8,8,8,8,8,8,8,8,8]
theorem tab8_ok : ∀ x,x < 256→(tab8.getD x 0).toNat≤8∧(1≤x→x < 2 ^ (tab8.getD x 0).toNat∧2 ^ (tab8.getD x 0).toNat≤2 * x) := by decide +kernel
set_option maxHeartbeats 2000000 in
theorem len64_ok (n : Nat) (hn : n≤4096) : SemF Try.prog 95 [.int .u64 n] ⟨0,0,[]⟩ (fun v _=>(∃ k : Nat,k≤16∧(1≤n→n < 2 ^ k∧2 ^ k≤2 * n)∧v = .int .i64 k)∧nameless v = true) := by
 refine enter tt_ok Try.func95 (nt := 25) (cd := body Try.f95) rfl rfl rfl rfl ?_
 intro _;refine ⟨fun g=>?_,fun g=>?_⟩
 ·have g := of_decide_eq_true (show decide ((n : Int) ≥ 4294967296) = true from g)
  omega
 intro _;refine ⟨fun g=>?_,fun g=>?_⟩
 ·have g := of_decide_eq_true (show decide ((n : Int) ≥ 65536) = true from g)
  omega
 intro _;refine ⟨fun g=>?_,fun g=>?_⟩
 ·have g := of_decide_eq_true (show decide ((n : Int) ≥ 256) = true from g)
  have e1 : (n : Int).fdiv (2 ^ (min (8 : Int).toNat 64)) = ((n / 256 : Nat) : Int) := by
   show (n : Int).fdiv 256 = _
   rw [Int.fdiv_eq_ediv_of_nonneg _ (by omega)];omega
  have e2 : IntKind.u8.wrap ((n : Int).fdiv (2 ^ (min (8 : Int).toNat 64))) = ((n / 256 : Nat) : Int) := by rw [e1];exact wrapB _ ⟨by omega,by omega⟩
  intro _;refine ⟨by omega,?_⟩
  intro _;refine ⟨show 0≤IntKind.u8.wrap ((n : Int).fdiv (2 ^ (min (8 : Int).toNat 64)))∧IntKind.u8.wrap ((n : Int).fdiv (2 ^ (min (8 : Int).toNat 64))) < (tab8.length : Int) by
   rw [e2];show _∧_ < (256 : Int);omega,?_⟩
  intro _
  obtain ⟨t1,t2⟩ := tab8_ok (n / 256) (by omega)
  have t2 := t2 (by omega)
  obtain ⟨k,hk⟩ : ∃ k,k = (tab8.getD (n / 256) 0).toNat := ⟨_,rfl⟩
  rw [← hk] at t1 t2
  refine ⟨⟨8 + k,by omega,fun _=>?_,?_⟩,rfl⟩
  ·rw [Nat.pow_add]
   constructor
   ·show n < 256 * 2 ^ k
    omega
   ·show 256 * 2 ^ k≤2 * n
    omega
  ·show V.int .i64 (IntKind.i64.wrap (IntKind.i64.wrap (0 + 8) + IntKind.i64.wrap (((tab8.getD (IntKind.u8.wrap ((n : Int).fdiv (2 ^ (min (8 : Int).toNat 64)))).toNat 0).toNat : Nat) : Int))) = V.int .i64 ((8 + k : Nat) : Int)
   rw [e2,show (((n / 256 : Nat) : Int)).toNat = n / 256 from rfl,← hk,wrapS (0 + 8) ⟨by omega,by omega⟩,wrapS (k : Int) ⟨by omega,by omega⟩,wrapS _ ⟨by omega,by omega⟩]
   congr 1
 have g := of_decide_eq_false (show decide ((n : Int) ≥ 256) = false from g)
 have e2 : IntKind.u8.wrap (n : Int) = ((n : Nat) : Int) := wrapB _ ⟨by omega,by omega⟩
 intro _;refine ⟨show 0≤IntKind.u8.wrap (n : Int)∧IntKind.u8.wrap (n : Int) < (tab8.length : Int) by
  rw [e2];show _∧_ < (256 : Int);omega,?_⟩
 intro _
 obtain ⟨t1,t2⟩ := tab8_ok n (by omega)
 obtain ⟨k,hk⟩ : ∃ k,k = (tab8.getD n 0).toNat := ⟨_,rfl⟩
 rw [← hk] at t1 t2
 refine ⟨⟨k,by omega,t2,?_⟩,rfl⟩
 show V.int .i64 (IntKind.i64.wrap (0 + IntKind.i64.wrap (((tab8.getD (IntKind.u8.wrap (n : Int)).toNat 0).toNat : Nat) : Int))) = V.int .i64 (k : Int)
 rw [e2,show ((n : Nat) : Int).toNat = n from rfl,← hk,wrapS (k : Int) ⟨by omega,by omega⟩,wrapS _ ⟨by omega,by omega⟩,Int.zero_add]
set_option maxHeartbeats 2000000 in
theorem len_ok (n : Nat) (hn : n≤4096) : SemF Try.prog 85 [.int .u64 n] ⟨0,0,[]⟩ (fun v _=>(∃ k : Nat,k≤16∧(1≤n→n < 2 ^ k∧2 ^ k≤2 * n)∧v = .int .i64 k)∧nameless v = true) := by
 refine enter tt_ok Try.func85 (nt := 8) (cd := body Try.f85) rfl rfl rfl rfl ?_
 intro _
 refine call_pure [] (len64_ok n hn) rfl rfl rfl ?_ ?_ ?_
 ·and_intros<;>try first|exact trivial|exact rfl
 ·and_intros<;>try first|exact trivial|exact rfl
 intro v hv _
 obtain ⟨k,k1,k2,rfl⟩ := hv
 intro _
 exact ⟨⟨k,k1,k2,rfl⟩,rfl⟩
set_option maxHeartbeats 2000000 in
theorem npow_ok (n : Nat) (h1 : 1≤n) (hn : n≤4096) : SemF Try.prog 97 [.int .i64 n] ⟨0,0,[]⟩ (fun v _=>(∃ m : Nat,(n≤m∧m≤2 * n)∧v = .int .u64 m)∧nameless v = true) := by
 refine enter tt_ok Try.func97 (nt := 7) (cd := body Try.f97) rfl rfl rfl rfl ?_
 intro _
 refine call_pure [] (len_ok n hn) rfl rfl rfl ?_ ?_ ?_
 ·and_intros<;>try first|exact trivial|exact rfl
 ·and_intros<;>try first|exact trivial|exact rfl
  exact (wrapU (n : Int) ⟨by omega,by omega⟩).symm
 intro v hv _
 obtain ⟨k,k1,k2,rfl⟩ := hv
 obtain ⟨k3,k4⟩ := k2 h1
 intro _;refine ⟨by omega,?_⟩
 intro _
 refine ⟨⟨2 ^ k,by omega,?_⟩,rfl⟩
 have : min (k : Int).toNat 64 = k := by omega
 show V.int .u64 (IntKind.u64.wrap (1 * 2 ^ (min (k : Int).toNat 64))) = V.int .u64 ((2 ^ k : Nat) : Int)
 rw [this,Int.one_mul]
 have e : ((2 : Int) ^ k) = ((2 ^ k : Nat) : Int) := by rw [Int.natCast_pow];rfl
 rw [e,wrapU _ ⟨by omega,by omega⟩]
set_option maxHeartbeats 2000000 in
theorem next_ok (s : Int) : SemF Try.prog 98 [.ptr 0 0] ⟨1,0,[(0,.cells [.int .u64 s])]⟩ (fun v h'=>∃ s' : Int,v = .int .u64 s'∧Go.Vm2.look h'.l 0 = some (.cells [.int .u64 s'])) := by
 refine enter tt_ok Try.func98 (nt := 33) (cd := body Try.f98) rfl rfl rfl rfl ?_
 intro _;refine ⟨by omega,?_⟩
 intro _;refine ⟨by kernel_rfl,?_⟩
 intro _;refine ⟨by omega,?_⟩
 intro _;refine ⟨by kernel_rfl,?_⟩
 intro _;refine ⟨by omega,?_⟩
 intro _;refine ⟨by kernel_rfl,?_⟩
 intro _
 exact ⟨_,rfl,rfl⟩
theorem and_bd (x m : Int) (hm : 0≤m∧m < 18446744073709551616) : 0≤Go.Vm.arith .and .u64 x m∧Go.Vm.arith .and .u64 x m≤m := by
 unfold Go.Vm.arith
 have h1 : ((BitVec.ofInt IntKind.u64.bits x &&& BitVec.ofInt IntKind.u64.bits m).toNat : Int)≤m := by
  rw [BitVec.toNat_and]
  have h2 := Nat.and_le_right (n := (BitVec.ofInt IntKind.u64.bits x).toNat) (m := (BitVec.ofInt IntKind.u64.bits m).toNat)
  have h3 : ((BitVec.ofInt IntKind.u64.bits m).toNat : Int) = m := by
   rw [BitVec.toNat_ofInt]
   show (((m % (2 ^ 64 : Nat)).toNat : Nat) : Int) = m
   have : ((2 ^ 64 : Nat) : Int) = 18446744073709551616 := rfl
   rw [this,Int.emod_eq_of_lt hm.1 hm.2];omega
  omega
 have h0 : (0 : Int)≤((BitVec.ofInt IntKind.u64.bits x &&& BitVec.ofInt IntKind.u64.bits m).toNat : Int) := Int.natCast_nonneg _
 rw [wrapU _ ⟨h0,by omega⟩]
 exact ⟨h0,h1⟩
theorem mut1c {y : Nat} {s s' : Int} {h' : H} (hd : Go.Vm2.look h'.l 0 = some (.cells [.int .u64 s'])) : mutNew [(0,some y)] h'.l [(0,.cells [.int .u64 s])] = some [(y,.cells [.int .u64 s'])] := by
 have e0 : Go.Vm2.look [((0 : Nat),some y)] 0 = some (some y) := rfl
 simp [mutNew,Ob.own,hd,e0,plainO,namelesss,nameless]
set_option maxHeartbeats 2000000 in
theorem break_ok (l : List Int) (hB_l : Bd l) (a b : Nat) (hab : a + 12 < b) (hb : b≤l.length) (hl : l.length≤4096) : SemF Try.prog 88 [.grw 0 l.length,.int .i64 a,.int .i64 b,.fn 74 [] []] ⟨1,0,DA l⟩ (fun v h'=>∃ l',Pm a b l l'∧v = .tup []∧Dat l' h') := by
 obtain ⟨n,hn⟩ : ∃ n,n = b - a := ⟨_,rfl⟩
 have e0 : IntKind.i64.wrap ((b : Int) - (a : Int)) = ((n : Nat) : Int) := by rw [wrapS _ ⟨by omega,by omega⟩];omega
 obtain ⟨q,hq⟩ : ∃ q,q = n / 4 := ⟨_,rfl⟩
 have eq4 : IntKind.i64.wrap ((IntKind.i64.wrap ((b : Int) - (a : Int))).tdiv 4) = ((q : Nat) : Int) := by
  rw [e0,Int.tdiv_eq_ediv_of_nonneg (by omega),wrapS _ ⟨by omega,by omega⟩];omega
 have ej : IntKind.i64.wrap ((a : Int) + IntKind.i64.wrap (IntKind.i64.wrap ((IntKind.i64.wrap ((b : Int) - (a : Int))).tdiv 4) * 2)) = ((a + 2 * q : Nat) : Int) := by
  rw [eq4,wrapS ((q : Int) * 2) ⟨by omega,by omega⟩,wrapS _ ⟨by omega,by omega⟩];omega
 refine enter tt_ok Try.func88 (nt := 67) (cd := body Try.f88) rfl rfl rfl rfl ?_
 intro _;refine ⟨fun g=>?_,fun g=>?_⟩
 rotate_left
 ·have g := of_decide_eq_false (show decide (IntKind.i64.wrap ((b : Int) - (a : Int)) ≥ 8) = false from g)
  rw [e0] at g
  omega
 intro _
 refine call_pure [] (npow_ok n (by omega) (by omega)) rfl rfl rfl ?_ ?_ ?_
 ·and_intros<;>try first|exact trivial|exact rfl
 ·and_intros<;>try first|exact trivial|exact rfl
  exact e0.symm
 intro v hv _
 obtain ⟨m,hm,rfl⟩ := hv
 intro _;refine ⟨by omega,?_⟩
 intro _
 refine loop2 tt_ok [11] [0,1] 2 (fun x : { x : Nat × List Int × Int // (a + 2 * q≤x.1 + 1∧x.1≤a + 2 * q + 2)∧Pm a b l x.2.1 }=>[(11,.int .i64 (x.1.1 : Nat))]) (fun x=>[(0,.arr [.int .i64] .grow (.ints x.1.2.1)),(1,.cells [.int .u64 x.1.2.2])]) (fun x=>a + 2 * q + 2 - x.1.1) ⟨(a + 2 * q - 1,l,IntKind.u64.wrap (IntKind.i64.wrap ((b : Int) - (a : Int)))),⟨by show a + 2 * q≤a + 2 * q - 1 + 1;omega,by show a + 2 * q - 1≤_;omega⟩,Pm.refl _ _ _⟩ ?_
 intro _
 refine ⟨⟨th [] 2,rfl,rfl,rfl,rfl,rfl,rfl,?_,?_⟩,?_⟩
 ·and_intros<;>try first|exact trivial|exact rfl
  show ((a + 2 * q - 1 : Nat) : Int) = IntKind.i64.wrap (IntKind.i64.wrap ((a : Int) + IntKind.i64.wrap (IntKind.i64.wrap ((IntKind.i64.wrap ((b : Int) - (a : Int))).tdiv 4) * 2)) - 1)
  rw [ej,wrapS _ ⟨by omega,by omega⟩];omega
 ·and_intros<;>try first|exact trivial|exact rfl
 intro ⟨⟨i,c,s⟩,⟨hi1,hi2⟩,hc⟩
 have hi1 : a + 2 * q≤i + 1 := hi1
 have hi2 : i≤a + 2 * q + 2 := hi2
 have hc : Pm a b l c := hc
 have hcl : c.length = l.length := hc.len
 have hB_c : Bd c := hc.bd hB_l
 intro _;refine ⟨by omega,?_⟩
 intro _;refine ⟨fun g=>?_,fun g=>?_⟩
 rotate_left
 ·intro _
  exact ⟨c,hc,rfl,rfl⟩
 have g := of_decide_eq_true (show decide ((i : Int)≤IntKind.i64.wrap (IntKind.i64.wrap ((a : Int) + IntKind.i64.wrap (IntKind.i64.wrap ((IntKind.i64.wrap ((b : Int) - (a : Int))).tdiv 4) * 2)) + 1)) = true from g)
 rw [ej,wrapS _ ⟨by omega,by omega⟩] at g
 intro _
 refine call_mut [(0,some 1)] (next_ok s) rfl rfl rfl rfl ?_ ?_ ?_
 ·and_intros<;>try first|exact trivial|exact rfl
 ·and_intros<;>try first|exact trivial|exact rfl
 intro v h' ⟨s',hv,hd⟩
 subst hv
 refine ⟨_,mut1c hd,rfl,?_⟩
 have em : IntKind.u64.wrap ((m : Int) - 1) = (m : Int) - 1 := wrapU _ ⟨by omega,by omega⟩
 obtain ⟨b1,b2⟩ := and_bd s' ((m : Int) - 1) ⟨by omega,by omega⟩
 obtain ⟨o,ho⟩ : ∃ o : Nat,IntKind.i64.wrap (Go.Vm.arith .and .u64 s' (IntKind.u64.wrap ((m : Int) - 1))) = (o : Int) := by
  rw [em,wrapS _ ⟨by omega,by omega⟩]
  exact ⟨(Go.Vm.arith .and .u64 s' ((m : Int) - 1)).toNat,by omega⟩
 have ho2 : (o : Int)≤(m : Int) - 1 := by
  rw [← ho,em,wrapS _ ⟨by omega,by omega⟩];exact b2
 intro _;refine ⟨fun g=>?_,fun g=>?_⟩
 ·have g2 := of_decide_eq_true (show decide (IntKind.i64.wrap (Go.Vm.arith .and .u64 s' (IntKind.u64.wrap ((m : Int) - 1))) ≥ IntKind.i64.wrap ((b : Int) - (a : Int))) = true from g)
  rw [ho,e0] at g2
  obtain ⟨o',eo1⟩ : ∃ o',o' = o - n := ⟨_,rfl⟩
  have eo' : IntKind.i64.wrap (IntKind.i64.wrap (Go.Vm.arith .and .u64 s' (IntKind.u64.wrap ((m : Int) - 1))) - IntKind.i64.wrap ((b : Int) - (a : Int))) = ((o' : Nat) : Int) := by rw [ho,e0,wrapS _ ⟨by omega,by omega⟩];omega
  have eQ : IntKind.i64.wrap ((a : Int) + IntKind.i64.wrap (IntKind.i64.wrap (Go.Vm.arith .and .u64 s' (IntKind.u64.wrap ((m : Int) - 1))) - IntKind.i64.wrap ((b : Int) - (a : Int)))) = ((a + o' : Nat) : Int) := by rw [eo',wrapS _ ⟨by omega,by omega⟩];omega
  have nQ : (IntKind.i64.wrap ((a : Int) + IntKind.i64.wrap (IntKind.i64.wrap (Go.Vm.arith .and .u64 s' (IntKind.u64.wrap ((m : Int) - 1))) - IntKind.i64.wrap ((b : Int) - (a : Int))))).toNat = a + o' := by rw [eQ];rfl
  have iP : 0≤(i : Int)∧(i : Int) < (l.length : Int) := by omega
  have iQ : 0≤IntKind.i64.wrap ((a : Int) + IntKind.i64.wrap (IntKind.i64.wrap (Go.Vm.arith .and .u64 s' (IntKind.u64.wrap ((m : Int) - 1))) - IntKind.i64.wrap ((b : Int) - (a : Int))))∧IntKind.i64.wrap ((a : Int) + IntKind.i64.wrap (IntKind.i64.wrap (Go.Vm.arith .and .u64 s' (IntKind.u64.wrap ((m : Int) - 1))) - IntKind.i64.wrap ((b : Int) - (a : Int)))) < (l.length : Int) := by rw [eQ];omega
  have jP : (i : Int).toNat < c.length := by omega
  have jQ : (IntKind.i64.wrap ((a : Int) + IntKind.i64.wrap (IntKind.i64.wrap (Go.Vm.arith .and .u64 s' (IntKind.u64.wrap ((m : Int) - 1))) - IntKind.i64.wrap ((b : Int) - (a : Int))))).toNat < c.length := by rw [nQ];omega
  intro _;refine ⟨iQ,?_⟩
  intro _;refine ⟨jQ,?_⟩
  intro _;refine ⟨iP,?_⟩
  intro _;refine ⟨jP,?_⟩
  intro _;refine ⟨iP,?_⟩
  intro _;refine ⟨jP,?_⟩
  intro _;refine ⟨iQ,?_⟩
  intro _;refine ⟨show (IntKind.i64.wrap ((a : Int) + IntKind.i64.wrap (IntKind.i64.wrap (Go.Vm.arith .and .u64 s' (IntKind.u64.wrap ((m : Int) - 1))) - IntKind.i64.wrap ((b : Int) - (a : Int))))).toNat < (c.set _ _).length by rw [List.length_set];exact jQ,?_⟩
  intro _;refine ⟨by kernel_rfl,?_⟩
  refine ⟨⟨(i + 1,sw c i (a + o'),s'),⟨by show a + 2 * q≤i + 1 + 1;omega,by show i + 1≤a + 2 * q + 2;omega⟩,hc.trans (sw_pm ⟨by omega,by omega⟩ ⟨by omega,by omega⟩ (by omega))⟩,by show a + 2 * q + 2 - (i + 1) < a + 2 * q + 2 - i;omega,th [] 2,rfl,rfl,rfl,rfl,rfl,rfl,?_,?_⟩
  ·and_intros<;>try first|exact trivial|exact rfl
   show ((i + 1 : Nat) : Int) = IntKind.i64.wrap ((i : Int) + 1)
   rw [wrapS _ ⟨by omega,by omega⟩];omega
  ·and_intros<;>try first|exact trivial|exact rfl
   show sw c i (a + o') = (c.set ((i : Nat) : Int).toNat (c.getD (IntKind.i64.wrap ((a : Int) + IntKind.i64.wrap (IntKind.i64.wrap (Go.Vm.arith .and .u64 s' (IntKind.u64.wrap ((m : Int) - 1))) - IntKind.i64.wrap ((b : Int) - (a : Int))))).toNat 0)).set (IntKind.i64.wrap ((a : Int) + IntKind.i64.wrap (IntKind.i64.wrap (Go.Vm.arith .and .u64 s' (IntKind.u64.wrap ((m : Int) - 1))) - IntKind.i64.wrap ((b : Int) - (a : Int))))).toNat (c.getD ((i : Nat) : Int).toNat 0)
   rw [nQ];rfl
 have g2 := of_decide_eq_false (show decide (IntKind.i64.wrap (Go.Vm.arith .and .u64 s' (IntKind.u64.wrap ((m : Int) - 1))) ≥ IntKind.i64.wrap ((b : Int) - (a : Int))) = false from g)
 rw [ho,e0] at g2
 obtain ⟨o',eo1⟩ : ∃ o',o' = o := ⟨_,rfl⟩
 have eo' : IntKind.i64.wrap (Go.Vm.arith .and .u64 s' (IntKind.u64.wrap ((m : Int) - 1))) = ((o' : Nat) : Int) := by rw [ho,eo1]
 have eQ : IntKind.i64.wrap ((a : Int) + IntKind.i64.wrap (Go.Vm.arith .and .u64 s' (IntKind.u64.wrap ((m : Int) - 1)))) = ((a + o' : Nat) : Int) := by rw [eo',wrapS _ ⟨by omega,by omega⟩];omega
 have nQ : (IntKind.i64.wrap ((a : Int) + IntKind.i64.wrap (Go.Vm.arith .and .u64 s' (IntKind.u64.wrap ((m : Int) - 1))))).toNat = a + o' := by rw [eQ];rfl
 have iP : 0≤(i : Int)∧(i : Int) < (l.length : Int) := by omega
 have iQ : 0≤IntKind.i64.wrap ((a : Int) + IntKind.i64.wrap (Go.Vm.arith .and .u64 s' (IntKind.u64.wrap ((m : Int) - 1))))∧IntKind.i64.wrap ((a : Int) + IntKind.i64.wrap (Go.Vm.arith .and .u64 s' (IntKind.u64.wrap ((m : Int) - 1)))) < (l.length : Int) := by rw [eQ];omega
 have jP : (i : Int).toNat < c.length := by omega
 have jQ : (IntKind.i64.wrap ((a : Int) + IntKind.i64.wrap (Go.Vm.arith .and .u64 s' (IntKind.u64.wrap ((m : Int) - 1))))).toNat < c.length := by rw [nQ];omega
 intro _;refine ⟨iQ,?_⟩
 intro _;refine ⟨jQ,?_⟩
 intro _;refine ⟨iP,?_⟩
 intro _;refine ⟨jP,?_⟩
 intro _;refine ⟨iP,?_⟩
 intro _;refine ⟨jP,?_⟩
 intro _;refine ⟨iQ,?_⟩
 intro _;refine ⟨show (IntKind.i64.wrap ((a : Int) + IntKind.i64.wrap (Go.Vm.arith .and .u64 s' (IntKind.u64.wrap ((m : Int) - 1))))).toNat < (c.set _ _).length by rw [List.length_set];exact jQ,?_⟩
 intro _;refine ⟨by kernel_rfl,?_⟩
 refine ⟨⟨(i + 1,sw c i (a + o'),s'),⟨by show a + 2 * q≤i + 1 + 1;omega,by show i + 1≤a + 2 * q + 2;omega⟩,hc.trans (sw_pm ⟨by omega,by omega⟩ ⟨by omega,by omega⟩ (by omega))⟩,by show a + 2 * q + 2 - (i + 1) < a + 2 * q + 2 - i;omega,th [] 2,rfl,rfl,rfl,rfl,rfl,rfl,?_,?_⟩
 ·and_intros<;>try first|exact trivial|exact rfl
  show ((i + 1 : Nat) : Int) = IntKind.i64.wrap ((i : Int) + 1)
  rw [wrapS _ ⟨by omega,by omega⟩];omega
 ·and_intros<;>try first|exact trivial|exact rfl
  show sw c i (a + o') = (c.set ((i : Nat) : Int).toNat (c.getD (IntKind.i64.wrap ((a : Int) + IntKind.i64.wrap (Go.Vm.arith .and .u64 s' (IntKind.u64.wrap ((m : Int) - 1))))).toNat 0)).set (IntKind.i64.wrap ((a : Int) + IntKind.i64.wrap (Go.Vm.arith .and .u64 s' (IntKind.u64.wrap ((m : Int) - 1))))).toNat (c.getD ((i : Nat) : Int).toNat 0)
  rw [nQ];rfl
def Lb (l : List Int) (a b : Nat) : Prop := 0 < a→∀ k,a≤k→k < b→at' l (a - 1)≤at' l k
theorem Lb.pm {l c : List Int} {a b : Nat} (h : Lb l a b) (hp : Pm a b l c) (hab : a≤b) (hb : b≤l.length) : Lb c a b := fun h0 k h1 h2=>by
 rw [hp.out (a - 1) (.inl (by omega))]
 exact hp.all hab hb (fun x=>at' l (a - 1)≤x) (h h0) k h1 h2
theorem Srt.ext {l : List Int} {a i : Nat} (h : Srt l a i) (g : at' l (i - 1)≤at' l i) : Srt l a (i + 1) := h.ins.done (.inr g)
theorem Srt.sw {l : List Int} {a i p q : Nat} (h : Srt l a i) (hp : i≤p) (hq : i≤q) (hpl : p < l.length) (hql : q < l.length) : Srt (sw l p q) a i := fun x y h1 h2 h3=>by
 rw [at_sw hpl hql,at_sw hpl hql,if_neg (by omega),if_neg (by omega),if_neg (by omega),if_neg (by omega)]
 exact h x y h1 h2 h3
theorem Srt.less {l : List Int} {a i j : Nat} (h : Srt l a i) (hj : j≤i) : Srt l a j := fun x y h1 h2 h3=>h x y h1 h2 (by omega)
set_option maxHeartbeats 2000000 in
theorem pins_ok (l : List Int) (hB_l : Bd l) (a b : Nat) (hab : a + 12 < b) (hb : b≤l.length) (hl : l.length≤4096) (hlb : Lb l a b) : SemF Try.prog 91 [.grw 0 l.length,.int .i64 a,.int .i64 b,.fn 74 [] []] ⟨1,0,DA l⟩ (fun v h'=>∃ l' q,(Pm a b l l'∧(q = true→Srt l' a b))∧v = .bool q∧Dat l' h') := by
 refine enter tt_ok Try.func91 (nt := 141) (cd := body Try.f91) rfl rfl rfl rfl ?_
 intro _
 refine loop2 tt_ok [9,10] [0] 1 (fun x : { x : Nat × Nat × List Int // (a + 1≤x.1∧x.1≤b)∧Pm a b l x.2.2∧Srt x.2.2 a x.1∧x.2.1≤5 }=>[(9,.int .i64 (x.1.1 : Nat)),(10,.int .i64 (x.1.2.1 : Nat))]) (fun x=>DA x.1.2.2) (fun x=>5 - x.1.2.1) ⟨(a + 1,0,l),⟨Nat.le_refl _,by show a + 1≤b;omega⟩,Pm.refl _ _ _,fun p q h1 h2 h3=>by omega,by show 0≤5;omega⟩ ?_
 intro _
 refine ⟨⟨th [] 1,rfl,rfl,rfl,rfl,rfl,rfl,?_,?_⟩,?_⟩
 ·and_intros<;>try first|exact trivial|exact rfl
  show ((a + 1 : Nat) : Int) = IntKind.i64.wrap ((a : Int) + 1)
  rw [wrapS _ ⟨by omega,by omega⟩];omega
 ·and_intros<;>try first|exact trivial|exact rfl
 intro ⟨⟨i,t,c⟩,⟨hi1,hi2⟩,hc,hs,ht⟩
 have hi1 : a + 1≤i := hi1
 have hi2 : i≤b := hi2
 have hc : Pm a b l c := hc
 have hcl : c.length = l.length := hc.len
 have hB_c : Bd c := hc.bd hB_l
 have hs : Srt c a i := hs
 have ht : t≤5 := ht
 intro _;refine ⟨fun g=>?_,fun g=>?_⟩
 rotate_left
 ·intro _
  exact ⟨c,false,⟨hc,fun h=>by cases h⟩,rfl,rfl⟩
 have gt := of_decide_eq_true (show decide ((t : Int) < 5) = true from g)
 intro _
 refine meet2 [9] [0] 1 (.exit 2) (fun x : { x : Nat // (a + 1≤x∧x≤b)∧Srt c a x∧(x = b ∨ at' c x < at' c (x - 1)) }=>[(9,.int .i64 (x.1 : Nat))]) (fun _=>DA c) ?_
 intro _
 refine ⟨?_,fun ⟨i2,⟨hi1,hi2⟩,hs,hx⟩=>?_⟩
 ·refine loop2 tt_ok [9] [0] 1 (fun x : { x : Nat // (a + 1≤x∧x≤b)∧Srt c a x }=>[(9,.int .i64 (x.1 : Nat))]) (fun _=>DA c) (fun x=>b - x.1) ⟨i,⟨hi1,hi2⟩,hs⟩ ?_
  intro _
  refine ⟨⟨th [] 1,rfl,rfl,rfl,rfl,rfl,rfl,?_,?_⟩,?_⟩
  ·and_intros<;>try first|exact trivial|exact rfl
  ·and_intros<;>try first|exact trivial|exact rfl
  intro ⟨k,⟨hk1,hk2⟩,hks⟩
  intro _;refine ⟨fun g=>?_,fun g=>?_⟩
  rotate_left
  ·have g := of_decide_eq_false (show decide ((k : Int) < (b : Int)) = false from g)
   intro _;refine ⟨by kernel_rfl,?_⟩
   refine Or.inl ⟨⟨k,⟨hk1,hk2⟩,hks,.inl (by omega)⟩,rfl,th [] 1,rfl,rfl,rfl,rfl,rfl,rfl,?_,?_⟩
   ·and_intros<;>try first|exact trivial|exact rfl
   ·and_intros<;>try first|exact trivial|exact rfl
  have g := of_decide_eq_true (show decide ((k : Int) < (b : Int)) = true from g)
  have ej : IntKind.i64.wrap ((k : Int) - 1) = (k : Int) - 1 := wrapS _ ⟨by omega,by omega⟩
  have n1 : (IntKind.i64.wrap ((k : Int) - 1)).toNat = k - 1 := by rw [ej];omega
  have fi1 : 0≤(k : Int)∧(k : Int) < (l.length : Int) := by omega
  have fi2 : 0≤IntKind.i64.wrap ((k : Int) - 1)∧IntKind.i64.wrap ((k : Int) - 1) < (l.length : Int) := by rw [ej];omega
  have fj1 : ((k : Int)).toNat < c.length := by omega
  have fj2 : (IntKind.i64.wrap ((k : Int) - 1)).toNat < c.length := by rw [n1];omega
  intro _;refine ⟨fi1,?_⟩
  intro _;refine ⟨fj1,?_⟩
  intro _;refine ⟨fi2,?_⟩
  intro _;refine ⟨fj2,?_⟩
  intro _
  refine Or.inl ?_
  intro _
  refine call_pure [] (less_ok (raw c k) (raw c (k - 1)) (hB_c.at _) (hB_c.at _)) rfl rfl rfl ?_ ?_ ?_
  ·and_intros<;>try first|exact trivial|exact rfl
  ·and_intros<;>try first|exact trivial|exact rfl
   show raw c (k - 1) = c.getD (IntKind.i64.wrap ((k : Int) - 1)).toNat 0
   rw [n1];rfl
  intro v hv _
  subst hv
  intro _;refine ⟨by kernel_rfl,?_⟩
  intro _;refine ⟨fun g=>?_,fun g=>?_⟩
  rotate_left
  ·have g2 : (!decide (nr (raw c k) (raw c (k - 1)) < 0)) = false := g
   rw [Bool.not_eq_false'] at g2
   have g2 : at' c k < at' c (k - 1) := nr_lt.1 (of_decide_eq_true g2)
   refine Or.inl ⟨⟨k,⟨hk1,hk2⟩,hks,.inr g2⟩,rfl,th [] 1,rfl,rfl,rfl,rfl,rfl,rfl,?_,?_⟩
   ·and_intros<;>try first|exact trivial|exact rfl
   ·and_intros<;>try first|exact trivial|exact rfl
  have g2 : (!decide (nr (raw c k) (raw c (k - 1)) < 0)) = true := g
  rw [Bool.not_eq_true'] at g2
  have g2 : ¬ at' c k < at' c (k - 1) := fun q=>absurd (nr_lt.2 q) (of_decide_eq_false g2)
  refine ⟨⟨k + 1,⟨by omega,by omega⟩,hks.ext (by omega)⟩,by show b - (k + 1) < b - k;omega,th [] 1,rfl,rfl,rfl,rfl,rfl,rfl,?_,?_⟩
  ·and_intros<;>try first|exact trivial|exact rfl
   show ((k + 1 : Nat) : Int) = IntKind.i64.wrap ((k : Int) + 1)
   rw [wrapS _ ⟨by omega,by omega⟩];omega
  ·and_intros<;>try first|exact trivial|exact rfl
 have hi1 : a + 1≤i2 := hi1
 have hi2 : i2≤b := hi2
 have hs : Srt c a i2 := hs
 intro _;refine ⟨fun g=>?_,fun g=>?_⟩
 ·have g : ((i2 : Int) == (b : Int)) = true := g
  have g := beq_iff_eq.1 g
  have e : i2 = b := by omega
  subst e
  intro _
  exact ⟨c,true,⟨hc,fun _=>hs⟩,rfl,rfl⟩
 have g : ((i2 : Int) == (b : Int)) = false := g
 have g := beq_eq_false_iff_ne.1 g
 have hib : i2 < b := by omega
 have hlt : at' c i2 < at' c (i2 - 1) := hx.resolve_left (by omega)
 intro _;refine ⟨fun g=>?_,fun g=>?_⟩
 ·intro _
  exact ⟨c,false,⟨hc,fun h=>by cases h⟩,rfl,rfl⟩
 have ej : IntKind.i64.wrap ((i2 : Int) - 1) = (i2 : Int) - 1 := wrapS _ ⟨by omega,by omega⟩
 have n1 : (IntKind.i64.wrap ((i2 : Int) - 1)).toNat = i2 - 1 := by rw [ej];omega
 have fi1 : 0≤(i2 : Int)∧(i2 : Int) < (l.length : Int) := by omega
 have fi2 : 0≤IntKind.i64.wrap ((i2 : Int) - 1)∧IntKind.i64.wrap ((i2 : Int) - 1) < (l.length : Int) := by rw [ej];omega
 have fj1 : ((i2 : Int)).toNat < c.length := by omega
 have fj2 : (IntKind.i64.wrap ((i2 : Int) - 1)).toNat < c.length := by rw [n1];omega
 intro _;refine ⟨fi2,?_⟩
 intro _;refine ⟨fj2,?_⟩
 intro _;refine ⟨fi1,?_⟩
 intro _;refine ⟨fj1,?_⟩
 intro _;refine ⟨fi1,?_⟩
 intro _;refine ⟨fj1,?_⟩
 intro _;refine ⟨fi2,?_⟩
 intro _;refine ⟨show (IntKind.i64.wrap ((i2 : Int) - 1)).toNat < (c.set _ _).length by rw [List.length_set];exact fj2,?_⟩
 intro _;refine ⟨by kernel_rfl,?_⟩
 have hc1 : Pm a b l (sw c i2 (i2 - 1)) := hc.trans (sw_pm ⟨by omega,by omega⟩ ⟨by omega,by omega⟩ (by omega))
 have hs1 : Srt (sw c i2 (i2 - 1)) a (i2 - 1) := (hs.less (by omega)).sw (by omega) (by omega) (by omega) (by omega)
 have eraw : sw c i2 (i2 - 1) = (c.set ((i2 : Int)).toNat (c.getD (IntKind.i64.wrap ((i2 : Int) - 1)).toNat 0)).set (IntKind.i64.wrap ((i2 : Int) - 1)).toNat (c.getD ((i2 : Int)).toNat 0) := by rw [n1];rfl
 obtain ⟨c1,hc1e⟩ : ∃ c1,c1 = sw c i2 (i2 - 1) := ⟨_,rfl⟩
 rw [← hc1e] at hc1 hs1
 have hc1l : c1.length = l.length := hc1.len
 have hB_c1 : Bd c1 := hc1.bd hB_l
 have es : IntKind.i64.wrap ((i2 : Int) - (a : Int)) = (i2 : Int) - a := wrapS _ ⟨by omega,by omega⟩
 intro _;refine ⟨fun g=>?_,fun g=>?_⟩
 ·have g := of_decide_eq_true (show decide (IntKind.i64.wrap ((i2 : Int) - (a : Int)) ≥ 2) = true from g)
  rw [es] at g
  intro _
  refine meet2 [11] [0] 1 (.exit 4) (fun x : { x : List Int // Pm a b l x∧Srt x a i2 }=>[]) (fun x=>DA x.1) ?_
  intro _
  refine ⟨?_,fun ⟨d1,hd1,hds1⟩=>?_⟩
  ·refine loop2 tt_ok [11] [0] 1 (fun x : { x : Nat × List Int // (a≤x.1∧x.1≤i2 - 1)∧Pm a b l x.2∧Ins x.2 a (i2 - 1) x.1 }=>[(11,.int .i64 (x.1.1 : Nat))]) (fun x=>DA x.1.2) (fun x=>x.1.1) ⟨(i2 - 1,c1),⟨by show a≤i2 - 1;omega,Nat.le_refl _⟩,hc1,hs1.ins⟩ ?_
   intro _
   refine ⟨⟨th [] 1,rfl,rfl,rfl,rfl,rfl,rfl,?_,?_⟩,?_⟩
   ·and_intros<;>try first|exact trivial|exact rfl
    show ((i2 - 1 : Nat) : Int) = IntKind.i64.wrap ((i2 : Int) - 1)
    rw [ej];omega
   ·and_intros<;>try first|exact trivial|exact rfl
    show c1 = _
    rw [hc1e];exact eraw
   clear ej n1 fi1 fi2 fj1 fj2 eraw
   intro ⟨⟨j,d⟩,⟨hj1,hj2⟩,hd,hins⟩
   have hj1 : a≤j := hj1
   have hj2 : j≤i2 - 1 := hj2
   have hd : Pm a b l d := hd
   have hdl : d.length = l.length := hd.len
   have hB_d : Bd d := hd.bd hB_l
   have hins : Ins d a (i2 - 1) j := hins
   have hdn : (j≤a ∨ at' d (j - 1)≤at' d j)→Srt d a i2 := fun h=>by
    have := hins.done h
    rw [show i2 - 1 + 1 = i2 by omega] at this
    exact this
   have hlbd : Lb d a b := hlb.pm hd (by omega) hb
   intro _;refine ⟨fun g=>?_,fun g=>?_⟩
   rotate_left
   ·have g := of_decide_eq_false (show decide ((j : Int) ≥ 1) = false from g)
    refine Or.inl ⟨⟨d,hd,hdn (.inl (by omega))⟩,rfl,th [] 1,rfl,rfl,rfl,rfl,rfl,rfl,?_,?_⟩
    ·and_intros<;>try first|exact trivial|exact rfl
    ·and_intros<;>try first|exact trivial|exact rfl
   have g := of_decide_eq_true (show decide ((j : Int) ≥ 1) = true from g)
   have ej : IntKind.i64.wrap ((j : Int) - 1) = (j : Int) - 1 := wrapS _ ⟨by omega,by omega⟩
   have n1 : (IntKind.i64.wrap ((j : Int) - 1)).toNat = j - 1 := by rw [ej];omega
   have fi1 : 0≤(j : Int)∧(j : Int) < (l.length : Int) := by omega
   have fi2 : 0≤IntKind.i64.wrap ((j : Int) - 1)∧IntKind.i64.wrap ((j : Int) - 1) < (l.length : Int) := by rw [ej];omega
   have fj1 : ((j : Int)).toNat < d.length := by omega
   have fj2 : (IntKind.i64.wrap ((j : Int) - 1)).toNat < d.length := by rw [n1];omega
   intro _;refine ⟨fi1,?_⟩
   intro _;refine ⟨fj1,?_⟩
   intro _;refine ⟨fi2,?_⟩
   intro _;refine ⟨fj2,?_⟩
   intro _
   refine Or.inl ?_
   intro _
   refine call_pure [] (less_ok (raw d j) (raw d (j - 1)) (hB_d.at _) (hB_d.at _)) rfl rfl rfl ?_ ?_ ?_
   ·and_intros<;>try first|exact trivial|exact rfl
   ·and_intros<;>try first|exact trivial|exact rfl
    show raw d (j - 1) = d.getD (IntKind.i64.wrap ((j : Int) - 1)).toNat 0
    rw [n1];rfl
   intro v hv _
   subst hv
   intro _;refine ⟨by kernel_rfl,?_⟩
   intro _;refine ⟨fun g=>?_,fun g=>?_⟩
   ·have g2 : (!decide (nr (raw d j) (raw d (j - 1)) < 0)) = true := g
    rw [Bool.not_eq_true'] at g2
    have g2 : ¬ at' d j < at' d (j - 1) := fun q=>absurd (nr_lt.2 q) (of_decide_eq_false g2)
    refine Or.inl ⟨⟨d,hd,hdn (.inr (by omega))⟩,rfl,th [] 1,rfl,rfl,rfl,rfl,rfl,rfl,?_,?_⟩
    ·and_intros<;>try first|exact trivial|exact rfl
    ·and_intros<;>try first|exact trivial|exact rfl
   have g2 : (!decide (nr (raw d j) (raw d (j - 1)) < 0)) = false := g
   rw [Bool.not_eq_false'] at g2
   have g2 : at' d j < at' d (j - 1) := nr_lt.1 (of_decide_eq_true g2)
   have hja : a < j := by
    by_cases e : j = a
    ·subst e
     have := hlbd (by omega) j (Nat.le_refl _) (by omega)
     omega
    ·omega
   intro _;refine ⟨fi2,?_⟩
   intro _;refine ⟨fj2,?_⟩
   intro _;refine ⟨fi1,?_⟩
   intro _;refine ⟨fj1,?_⟩
   intro _;refine ⟨fi1,?_⟩
   intro _;refine ⟨fj1,?_⟩
   intro _;refine ⟨fi2,?_⟩
   intro _;refine ⟨show (IntKind.i64.wrap ((j : Int) - 1)).toNat < (d.set _ _).length by rw [List.length_set];exact fj2,?_⟩
   intro _;refine ⟨by kernel_rfl,?_⟩
   refine ⟨⟨(j - 1,sw d j (j - 1)),⟨by show a≤j - 1;omega,by show j - 1≤i2 - 1;omega⟩,hd.trans (sw_pm ⟨by omega,by omega⟩ ⟨by omega,by omega⟩ (by omega)),hins.step hja hj2 (by omega) g2⟩,by show j - 1 < j;omega,th [] 1,rfl,rfl,rfl,rfl,rfl,rfl,?_,?_⟩
   ·and_intros<;>try first|exact trivial|exact rfl
    show ((j - 1 : Nat) : Int) = IntKind.i64.wrap ((j : Int) - 1)
    rw [ej];omega
   ·and_intros<;>try first|exact trivial|exact rfl
    show sw d j (j - 1) = (d.set ((j : Int)).toNat (d.getD (IntKind.i64.wrap ((j : Int) - 1)).toNat 0)).set (IntKind.i64.wrap ((j : Int) - 1)).toNat (d.getD ((j : Int)).toNat 0)
    rw [n1];rfl
  have hd1 : Pm a b l d1 := hd1
  have hds1 : Srt d1 a i2 := hds1
  intro _;refine ⟨fun g=>?_,fun g=>?_⟩
  ·intro _
   refine meet2 [12] [0] 1 (.exit 6) (fun x : { x : List Int // Pm a b l x∧Srt x a i2 }=>[]) (fun x=>DA x.1) ?_
   intro _
   refine ⟨?_,fun ⟨d2,hd2,hs2⟩=>?_⟩
   ·refine loop2 tt_ok [12] [0] 1 (fun x : { x : Nat × List Int // i2 + 1≤x.1∧Pm a b l x.2∧Srt x.2 a i2 }=>[(12,.int .i64 (x.1.1 : Nat))]) (fun x=>DA x.1.2) (fun x=>b - x.1.1) ⟨(i2 + 1,d1),Nat.le_refl _,hd1,hds1⟩ ?_
    intro _
    refine ⟨⟨th [] 1,rfl,rfl,rfl,rfl,rfl,rfl,?_,?_⟩,?_⟩
    ·and_intros<;>try first|exact trivial|exact rfl
     show ((i2 + 1 : Nat) : Int) = IntKind.i64.wrap ((i2 : Int) + 1)
     rw [wrapS _ ⟨by omega,by omega⟩];omega
    ·and_intros<;>try first|exact trivial|exact rfl
    intro ⟨⟨j,d⟩,hj,hd,hds⟩
    have hj : i2 + 1≤j := hj
    have hd : Pm a b l d := hd
    have hdl : d.length = l.length := hd.len
    have hB_d : Bd d := hd.bd hB_l
    have hds : Srt d a i2 := hds
    intro _;refine ⟨fun g=>?_,fun g=>?_⟩
    rotate_left
    ·refine Or.inl ⟨⟨d,hd,hds⟩,rfl,th [] 1,rfl,rfl,rfl,rfl,rfl,rfl,?_,?_⟩
     ·and_intros<;>try first|exact trivial|exact rfl
     ·and_intros<;>try first|exact trivial|exact rfl
    have g := of_decide_eq_true (show decide ((j : Int) < (b : Int)) = true from g)
    have ej : IntKind.i64.wrap ((j : Int) - 1) = (j : Int) - 1 := wrapS _ ⟨by omega,by omega⟩
    have n1 : (IntKind.i64.wrap ((j : Int) - 1)).toNat = j - 1 := by rw [ej];omega
    have fi1 : 0≤(j : Int)∧(j : Int) < (l.length : Int) := by omega
    have fi2 : 0≤IntKind.i64.wrap ((j : Int) - 1)∧IntKind.i64.wrap ((j : Int) - 1) < (l.length : Int) := by rw [ej];omega
    have fj1 : ((j : Int)).toNat < d.length := by omega
    have fj2 : (IntKind.i64.wrap ((j : Int) - 1)).toNat < d.length := by rw [n1];omega
    intro _;refine ⟨fi1,?_⟩
    intro _;refine ⟨fj1,?_⟩
    intro _;refine ⟨fi2,?_⟩
    intro _;refine ⟨fj2,?_⟩
    intro _
    refine Or.inl ?_
    intro _
    refine call_pure [] (less_ok (raw d j) (raw d (j - 1)) (hB_d.at _) (hB_d.at _)) rfl rfl rfl ?_ ?_ ?_
    ·and_intros<;>try first|exact trivial|exact rfl
    ·and_intros<;>try first|exact trivial|exact rfl
     show raw d (j - 1) = d.getD (IntKind.i64.wrap ((j : Int) - 1)).toNat 0
     rw [n1];rfl
    intro v hv _
    subst hv
    intro _;refine ⟨by kernel_rfl,?_⟩
    intro _;refine ⟨fun g=>?_,fun g=>?_⟩
    ·refine Or.inl ⟨⟨d,hd,hds⟩,rfl,th [] 1,rfl,rfl,rfl,rfl,rfl,rfl,?_,?_⟩
     ·and_intros<;>try first|exact trivial|exact rfl
     ·and_intros<;>try first|exact trivial|exact rfl
    intro _;refine ⟨fi2,?_⟩
    intro _;refine ⟨fj2,?_⟩
    intro _;refine ⟨fi1,?_⟩
    intro _;refine ⟨fj1,?_⟩
    intro _;refine ⟨fi1,?_⟩
    intro _;refine ⟨fj1,?_⟩
    intro _;refine ⟨fi2,?_⟩
    intro _;refine ⟨show (IntKind.i64.wrap ((j : Int) - 1)).toNat < (d.set _ _).length by rw [List.length_set];exact fj2,?_⟩
    intro _;refine ⟨by kernel_rfl,?_⟩
    refine ⟨⟨(j + 1,sw d j (j - 1)),by show i2 + 1≤j + 1;omega,hd.trans (sw_pm ⟨by omega,by omega⟩ ⟨by omega,by omega⟩ (by omega)),hds.sw (by omega) (by omega) (by omega) (by omega)⟩,by show b - (j + 1) < b - j;omega,th [] 1,rfl,rfl,rfl,rfl,rfl,rfl,?_,?_⟩
    ·and_intros<;>try first|exact trivial|exact rfl
     show ((j + 1 : Nat) : Int) = IntKind.i64.wrap ((j : Int) + 1)
     rw [wrapS _ ⟨by omega,by omega⟩];omega
    ·and_intros<;>try first|exact trivial|exact rfl
     show sw d j (j - 1) = (d.set ((j : Int)).toNat (d.getD (IntKind.i64.wrap ((j : Int) - 1)).toNat 0)).set (IntKind.i64.wrap ((j : Int) - 1)).toNat (d.getD ((j : Int)).toNat 0)
     rw [n1];rfl
   have hd2 : Pm a b l d2 := hd2
   have hs2 : Srt d2 a i2 := hs2
   refine ⟨⟨(i2,t + 1,d2),⟨by omega,by omega⟩,hd2,hs2,by show t + 1≤5;omega⟩,by show 5 - (t + 1) < 5 - t;omega,th [] 1,rfl,rfl,rfl,rfl,rfl,rfl,?_,?_⟩
   ·and_intros<;>try first|exact trivial|exact rfl
    show ((t + 1 : Nat) : Int) = IntKind.i64.wrap ((t : Int) + 1)
    rw [wrapS _ ⟨by omega,by omega⟩];omega
   ·and_intros<;>try first|exact trivial|exact rfl
  refine ⟨⟨(i2,t + 1,d1),⟨by omega,by omega⟩,hd1,hds1,by show t + 1≤5;omega⟩,by show 5 - (t + 1) < 5 - t;omega,th [] 1,rfl,rfl,rfl,rfl,rfl,rfl,?_,?_⟩
  ·and_intros<;>try first|exact trivial|exact rfl
   show ((t + 1 : Nat) : Int) = IntKind.i64.wrap ((t : Int) + 1)
   rw [wrapS _ ⟨by omega,by omega⟩];omega
  ·and_intros<;>try first|exact trivial|exact rfl
 have g := of_decide_eq_false (show decide (IntKind.i64.wrap ((i2 : Int) - (a : Int)) ≥ 2) = false from g)
 rw [es] at g
 have hs3 : Srt c1 a i2 := fun p q h1 h2 h3=>by omega
 intro _;refine ⟨fun g=>?_,fun g=>?_⟩
 ·intro _
  refine meet2 [12] [0] 1 (.exit 6) (fun x : { x : List Int // Pm a b l x∧Srt x a i2 }=>[]) (fun x=>DA x.1) ?_
  intro _
  refine ⟨?_,fun ⟨d2,hd2,hs2⟩=>?_⟩
  ·refine loop2 tt_ok [12] [0] 1 (fun x : { x : Nat × List Int // i2 + 1≤x.1∧Pm a b l x.2∧Srt x.2 a i2 }=>[(12,.int .i64 (x.1.1 : Nat))]) (fun x=>DA x.1.2) (fun x=>b - x.1.1) ⟨(i2 + 1,c1),Nat.le_refl _,hc1,hs3⟩ ?_
   intro _
   refine ⟨⟨th [] 1,rfl,rfl,rfl,rfl,rfl,rfl,?_,?_⟩,?_⟩
   ·and_intros<;>try first|exact trivial|exact rfl
    show ((i2 + 1 : Nat) : Int) = IntKind.i64.wrap ((i2 : Int) + 1)
    rw [wrapS _ ⟨by omega,by omega⟩];omega
   ·and_intros<;>try first|exact trivial|exact rfl
    show c1 = _
    rw [hc1e];exact eraw
   intro ⟨⟨j,d⟩,hj,hd,hds⟩
   have hj : i2 + 1≤j := hj
   have hd : Pm a b l d := hd
   have hdl : d.length = l.length := hd.len
   have hB_d : Bd d := hd.bd hB_l
   have hds : Srt d a i2 := hds
   intro _;refine ⟨fun g=>?_,fun g=>?_⟩
   rotate_left
   ·refine Or.inl ⟨⟨d,hd,hds⟩,rfl,th [] 1,rfl,rfl,rfl,rfl,rfl,rfl,?_,?_⟩
    ·and_intros<;>try first|exact trivial|exact rfl
    ·and_intros<;>try first|exact trivial|exact rfl
   have g := of_decide_eq_true (show decide ((j : Int) < (b : Int)) = true from g)
   have ej : IntKind.i64.wrap ((j : Int) - 1) = (j : Int) - 1 := wrapS _ ⟨by omega,by omega⟩
   have n1 : (IntKind.i64.wrap ((j : Int) - 1)).toNat = j - 1 := by rw [ej];omega
   have fi1 : 0≤(j : Int)∧(j : Int) < (l.length : Int) := by omega
   have fi2 : 0≤IntKind.i64.wrap ((j : Int) - 1)∧IntKind.i64.wrap ((j : Int) - 1) < (l.length : Int) := by rw [ej];omega
   have fj1 : ((j : Int)).toNat < d.length := by omega
   have fj2 : (IntKind.i64.wrap ((j : Int) - 1)).toNat < d.length := by rw [n1];omega
   intro _;refine ⟨fi1,?_⟩
   intro _;refine ⟨fj1,?_⟩
   intro _;refine ⟨fi2,?_⟩
   intro _;refine ⟨fj2,?_⟩
   intro _
   refine Or.inl ?_
   intro _
   refine call_pure [] (less_ok (raw d j) (raw d (j - 1)) (hB_d.at _) (hB_d.at _)) rfl rfl rfl ?_ ?_ ?_
   ·and_intros<;>try first|exact trivial|exact rfl
   ·and_intros<;>try first|exact trivial|exact rfl
    show raw d (j - 1) = d.getD (IntKind.i64.wrap ((j : Int) - 1)).toNat 0
    rw [n1];rfl
   intro v hv _
   subst hv
   intro _;refine ⟨by kernel_rfl,?_⟩
   intro _;refine ⟨fun g=>?_,fun g=>?_⟩
   ·refine Or.inl ⟨⟨d,hd,hds⟩,rfl,th [] 1,rfl,rfl,rfl,rfl,rfl,rfl,?_,?_⟩
    ·and_intros<;>try first|exact trivial|exact rfl
    ·and_intros<;>try first|exact trivial|exact rfl
   intro _;refine ⟨fi2,?_⟩
   intro _;refine ⟨fj2,?_⟩
   intro _;refine ⟨fi1,?_⟩
   intro _;refine ⟨fj1,?_⟩
   intro _;refine ⟨fi1,?_⟩
   intro _;refine ⟨fj1,?_⟩
   intro _;refine ⟨fi2,?_⟩
   intro _;refine ⟨show (IntKind.i64.wrap ((j : Int) - 1)).toNat < (d.set _ _).length by rw [List.length_set];exact fj2,?_⟩
   intro _;refine ⟨by kernel_rfl,?_⟩
   refine ⟨⟨(j + 1,sw d j (j - 1)),by show i2 + 1≤j + 1;omega,hd.trans (sw_pm ⟨by omega,by omega⟩ ⟨by omega,by omega⟩ (by omega)),hds.sw (by omega) (by omega) (by omega) (by omega)⟩,by show b - (j + 1) < b - j;omega,th [] 1,rfl,rfl,rfl,rfl,rfl,rfl,?_,?_⟩
   ·and_intros<;>try first|exact trivial|exact rfl
    show ((j + 1 : Nat) : Int) = IntKind.i64.wrap ((j : Int) + 1)
    rw [wrapS _ ⟨by omega,by omega⟩];omega
   ·and_intros<;>try first|exact trivial|exact rfl
    show sw d j (j - 1) = (d.set ((j : Int)).toNat (d.getD (IntKind.i64.wrap ((j : Int) - 1)).toNat 0)).set (IntKind.i64.wrap ((j : Int) - 1)).toNat (d.getD ((j : Int)).toNat 0)
    rw [n1];rfl
  have hd2 : Pm a b l d2 := hd2
  have hs2 : Srt d2 a i2 := hs2
  refine ⟨⟨(i2,t + 1,d2),⟨by omega,by omega⟩,hd2,hs2,by show t + 1≤5;omega⟩,by show 5 - (t + 1) < 5 - t;omega,th [] 1,rfl,rfl,rfl,rfl,rfl,rfl,?_,?_⟩
  ·and_intros<;>try first|exact trivial|exact rfl
   show ((t + 1 : Nat) : Int) = IntKind.i64.wrap ((t : Int) + 1)
   rw [wrapS _ ⟨by omega,by omega⟩];omega
  ·and_intros<;>try first|exact trivial|exact rfl
 refine ⟨⟨(i2,t + 1,c1),⟨by omega,by omega⟩,hc1,hs3,by show t + 1≤5;omega⟩,by show 5 - (t + 1) < 5 - t;omega,th [] 1,rfl,rfl,rfl,rfl,rfl,rfl,?_,?_⟩
 ·and_intros<;>try first|exact trivial|exact rfl
  show ((t + 1 : Nat) : Int) = IntKind.i64.wrap ((t : Int) + 1)
  rw [wrapS _ ⟨by omega,by omega⟩];omega
 ·and_intros<;>try first|exact trivial|exact rfl
  show c1 = _
  rw [hc1e];exact eraw
end Go.Proofs.Ytbcjncoajilijaa.con
