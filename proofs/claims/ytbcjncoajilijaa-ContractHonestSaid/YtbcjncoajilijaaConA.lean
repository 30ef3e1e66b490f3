/-
 Contracts of packages quot, curve and contract. No conditions beyond those that its theorems name.
-/
import Derived.Test.YtbcjncoajilijaaRows
import Derived.Test.YtbcjncoajilijaaVwOpen2
import Derived.Test.YtbcjncoajilijaaVwRules7
import Derived.WalkKit
import Derived.ProofKit
import Derived.OpenShut
import Derived.Carry
import Derived.Test.YtbcjncoajilijaaCrvA
namespace Go.Proofs.Ytbcjncoajilijaa.con
open Go.ChangeShapes Go.WideShapes Go.ChangeAt Go.RowKit
open Go.Vm (Facts Val Sound)
open Go.Vm2
set_option linter.unusedVariables false
set_option linter.unusedSectionVars false
set_option maxRecDepth 100000
def Id_ (n : Int) : Prop := 1 ≤ n ∧ n ≤ 1000000
instance (n : Int) : Decidable (Id_ n) := inferInstanceAs (Decidable (_ ∧ _))
theorem id_test (n : Int) (h : H) (K : V → H → Prop) (hK : K (.test (decide (Id_ n))) h) : SemF Try.prog 40 [.int .i64 n] h K := by
 refine SemF.test ?_
 refine enter tt_ok Try.func40 (nt := 9) (cd := body Try.f40) rfl rfl rfl rfl ?_
 intro _; refine ⟨fun g => ?_, fun g => ?_⟩
 ·have g := of_decide_eq_true (show decide (n ≥ 1) = true from g)
  intro _
  refine ⟨_, .inr rfl, ?_⟩
  have : decide (Id_ n) = decide (n ≤ 1000000) := by
   by_cases e : n ≤ 1000000
   ·rw [decide_eq_true e, decide_eq_true (show Id_ n from ⟨by omega, e⟩)]
   ·rw [decide_eq_false e, decide_eq_false (fun m => e m.2)]
  rw [← this]; exact hK
 ·have g := of_decide_eq_false (show decide (n ≥ 1) = false from g)
  intro _
  refine ⟨false, .inl rfl, ?_⟩
  have : decide (Id_ n) = false := decide_eq_false (fun m => by have := m.1; omega)
  rw [← this]; exact hK
def Ln_ (n : Int) : Prop := 0 ≤ n ∧ n ≤ 1000000
instance (n : Int) : Decidable (Ln_ n) := inferInstanceAs (Decidable (_ ∧ _))
theorem len_test (n : Int) (h : H) (K : V → H → Prop) (hK : K (.test (decide (Ln_ n))) h) : SemF Try.prog 27 [.int .i64 n] h K := by
 refine SemF.test ?_
 refine enter tt_ok Try.func27 (nt := 9) (cd := body Try.f27) rfl rfl rfl rfl ?_
 intro _; refine ⟨fun g => ?_, fun g => ?_⟩
 ·have g := of_decide_eq_true (show decide (n ≥ 0) = true from g)
  intro _
  refine ⟨_, .inr rfl, ?_⟩
  have : decide (Ln_ n) = decide (n ≤ 1000000) := by
   by_cases e : n ≤ 1000000
   ·rw [decide_eq_true e, decide_eq_true (show Ln_ n from ⟨by omega, e⟩)]
   ·rw [decide_eq_false e, decide_eq_false (fun m => e m.2)]
  rw [← this]; exact hK
 ·have g := of_decide_eq_false (show decide (n ≥ 0) = false from g)
  intro _
  refine ⟨false, .inl rfl, ?_⟩
  have : decide (Ln_ n) = false := decide_eq_false (fun m => by have := m.1; omega)
  rw [← this]; exact hK
def Cn_ (n : Int) : Prop := 0 ≤ n ∧ n ≤ 1000000000
instance (n : Int) : Decidable (Cn_ n) := inferInstanceAs (Decidable (_ ∧ _))
theorem cnt_test (n : Int) (h : H) (K : V → H → Prop) (hK : K (.test (decide (Cn_ n))) h) : SemF Try.prog 45 [.int .i64 n] h K := by
 refine SemF.test ?_
 refine enter tt_ok Try.func45 (nt := 9) (cd := body Try.f45) rfl rfl rfl rfl ?_
 intro _; refine ⟨fun g => ?_, fun g => ?_⟩
 ·have g := of_decide_eq_true (show decide (n ≥ 0) = true from g)
  intro _
  refine ⟨_, .inr rfl, ?_⟩
  have : decide (Cn_ n) = decide (n ≤ 1000000000) := by
   by_cases e : n ≤ 1000000000
   ·rw [decide_eq_true e, decide_eq_true (show Cn_ n from ⟨by omega, e⟩)]
   ·rw [decide_eq_false e, decide_eq_false (fun m => e m.2)]
  rw [← this]; exact hK
 ·have g := of_decide_eq_false (show decide (n ≥ 0) = false from g)
  intro _
  refine ⟨false, .inl rfl, ?_⟩
  have : decide (Cn_ n) = false := decide_eq_false (fun m => by have := m.1; omega)
  rw [← this]; exact hK
def pr (l : List Int) (f w : Int) : Int := raw l (max 0 (min (w - f) ((l.length : Int) - 1))).toNat
abbrev HC (l : List Int) (f : Int) : List (Nat × Ob) := [(0, .arr [.int .i64] .rd (.ints l)), (1, .cells [.slc 0 1 0 l.length]), (2, .cells [.int .i64 f]), (3, .cells [.int .i64 ((l.length : Int) - 1)])]
theorem prom_ok (l : List Int) (f w : Int) (h1 : 1 ≤ l.length) (hl : l.length ≤ 4000) (hf : 0 ≤ f ∧ f ≤ 4000) (hw : Ln_ w) : SemF Try.prog 41 [.int .i64 w, .ptr 1 0, .ptr 2 0, .ptr 3 0] ⟨4, 4, HC l f⟩ (fun v _ => v = .int .i64 (pr l f w) ∧ nameless v = true) := by
 have w1 := hw.1; have w2 := hw.2
 refine enter tt_ok Try.func41 (nt := 15) (cd := body Try.f41) rfl rfl rfl rfl ?_
 intro _
 have e : IntKind.i64.wrap (w - f) = w - f := wrapS _ ⟨by omega, by omega⟩
 refine ⟨show 0 ≤ max 0 (min (IntKind.i64.wrap (w - f)) ((l.length : Int) - 1)) ∧ max 0 (min (IntKind.i64.wrap (w - f)) ((l.length : Int) - 1)) < (l.length : Int) by omega, ?_⟩
 intro _; refine ⟨show 0 + (max 0 (min (IntKind.i64.wrap (w - f)) ((l.length : Int) - 1))).toNat < l.length by omega, ?_⟩
 intro _
 refine ⟨?_, rfl⟩
 show V.int .i64 (raw l (0 + (max 0 (min (IntKind.i64.wrap (w - f)) ((l.length : Int) - 1))).toNat)) = .int .i64 (pr l f w)
 rw [e, Nat.zero_add]; rfl
structure Ac where
 nd : Int
 ch : Int
 cg : Int
 la : Int
 fr : Bool
abbrev AV_ (a : Ac) : V := .agg [.int .i64 a.nd, .int .i64 a.ch, .int .i64 a.cg, .int .i64 a.la, .test a.fr]
abbrev BK (a : Ac) (mo : Int) : Ob := .cells [.int .i64 a.nd, .int .i64 a.ch, .int .i64 a.cg, .int .i64 a.la, .test a.fr, .int .i64 mo]
abbrev XV (nd w k hh : Int) : V := .agg [.int .i64 nd, .int .i64 w, .int .i64 k, .int .i64 hh]
def Aok (a : Ac) : Prop := Id_ a.nd ∧ Cn_ a.ch ∧ Cn_ a.cg ∧ (-1000000 ≤ a.la ∧ a.la ≤ 1000000)
def Xok (nd w k hh : Int) : Prop := Id_ nd ∧ Ln_ w ∧ ((k = 1 ∧ Ln_ hh) ∨ ((k = 2 ∨ k = 3) ∧ hh = 0))
instance (a : Ac) : Decidable (Aok a) := inferInstanceAs (Decidable (_ ∧ _))
instance (nd w k hh : Int) : Decidable (Xok nd w k hh) := inferInstanceAs (Decidable (_ ∧ _))
theorem acc_ok (a : Ac) : SemF Try.prog 33 [AV_ a] ⟨0, 0, []⟩ (fun v _ => v = .test (decide (Aok a)) ∧ nameless v = true) := by
 refine SemF.test ?_
 have no : ¬ Aok a → ∃ b, (V.bool false = .bool b ∨ V.bool false = .test b) ∧ V.test b = .test (decide (Aok a)) ∧ nameless (V.test b) = true := fun h => ⟨false, .inl rfl, by rw [decide_eq_false h], rfl⟩
 refine enter tt_ok Try.func33 (nt := 26) (cd := body Try.f33) rfl rfl rfl rfl ?_
 intro _
 refine id_test _ _ _ ?_
 intro _; refine ⟨fun g => ?_, fun g => ?_⟩
 rotate_left
 ·have g := of_decide_eq_false (show decide (Id_ a.nd) = false from g)
  intro _
  exact no (fun h => g h.1)
 have g1 := of_decide_eq_true (show decide (Id_ a.nd) = true from g)
 intro _
 refine cnt_test _ _ _ ?_
 intro _; refine ⟨fun g => ?_, fun g => ?_⟩
 rotate_left
 ·have g := of_decide_eq_false (show decide (Cn_ a.ch) = false from g)
  intro _
  exact no (fun h => g h.2.1)
 have g2 := of_decide_eq_true (show decide (Cn_ a.ch) = true from g)
 intro _
 refine cnt_test _ _ _ ?_
 intro _; refine ⟨fun g => ?_, fun g => ?_⟩
 rotate_left
 ·have g := of_decide_eq_false (show decide (Cn_ a.cg) = false from g)
  intro _
  exact no (fun h => g h.2.2.1)
 have g3 := of_decide_eq_true (show decide (Cn_ a.cg) = true from g)
 intro _; refine ⟨fun g => ?_, fun g => ?_⟩
 rotate_left
 ·have g := of_decide_eq_false (show decide (a.la ≥ -1000000) = false from g)
  intro _
  exact no (fun h => g h.2.2.2.1)
 have g4 := of_decide_eq_true (show decide (a.la ≥ -1000000) = true from g)
 intro _
 refine ⟨_, .inr rfl, ?_, rfl⟩
 show V.test (decide (a.la ≤ 1000000)) = .test (decide (Aok a))
 by_cases e : a.la ≤ 1000000
 ·rw [decide_eq_true e, decide_eq_true (show Aok a from ⟨g1, g2, g3, g4, e⟩)]
 ·rw [decide_eq_false e, decide_eq_false (fun h : Aok a => e h.2.2.2.2)]
theorem ans_ok (nd w k hh : Int) : SemF Try.prog 34 [XV nd w k hh] ⟨0, 0, []⟩ (fun v _ => v = .test (decide (Xok nd w k hh)) ∧ nameless v = true) := by
 refine SemF.test ?_
 have no : ¬ Xok nd w k hh → ∃ b, (V.bool false = .bool b ∨ V.bool false = .test b) ∧ V.test b = .test (decide (Xok nd w k hh)) ∧ nameless (V.test b) = true := fun h => ⟨false, .inl rfl, by rw [decide_eq_false h], rfl⟩
 refine enter tt_ok Try.func34 (nt := 36) (cd := body Try.f34) rfl rfl rfl rfl ?_
 intro _; refine ⟨fun g => ?_, fun g => ?_⟩
 ·have gk : k = 1 := by simpa using (show (k == 1) = true from g)
  intro _
  refine id_test _ _ _ ?_
  intro _; refine ⟨fun g => ?_, fun g => ?_⟩
  rotate_left
  ·have g := of_decide_eq_false (show decide (Id_ nd) = false from g)
   intro _
   exact no (fun h => g h.1)
  have g1 := of_decide_eq_true (show decide (Id_ nd) = true from g)
  intro _
  refine len_test _ _ _ ?_
  intro _; refine ⟨fun g => ?_, fun g => ?_⟩
  rotate_left
  ·have g := of_decide_eq_false (show decide (Ln_ w) = false from g)
   intro _
   exact no (fun h => g h.2.1)
  have g2 := of_decide_eq_true (show decide (Ln_ w) = true from g)
  intro _
  refine len_test _ _ _ ?_
  intro _
  refine ⟨_, .inr rfl, ?_, rfl⟩
  show V.test (decide (Ln_ hh)) = .test (decide (Xok nd w k hh))
  by_cases e : Ln_ hh
  ·rw [decide_eq_true e, decide_eq_true (show Xok nd w k hh from ⟨g1, g2, .inl ⟨gk, e⟩⟩)]
  ·rw [decide_eq_false e, decide_eq_false (fun h : Xok nd w k hh => h.2.2.elim (fun q => e q.2) (fun q => by omega))]
 have gk1 : k ≠ 1 := by simpa using (show (k == 1) = false from g)
 intro _; refine ⟨fun g => ?_, fun g => ?_⟩
 ·have gk : k = 2 := by simpa using (show (k == 2) = true from g)
  intro _
  refine id_test _ _ _ ?_
  intro _; refine ⟨fun g => ?_, fun g => ?_⟩
  rotate_left
  ·have g := of_decide_eq_false (show decide (Id_ nd) = false from g)
   intro _
   exact no (fun h => g h.1)
  have g1 := of_decide_eq_true (show decide (Id_ nd) = true from g)
  intro _
  refine len_test _ _ _ ?_
  intro _; refine ⟨fun g => ?_, fun g => ?_⟩
  rotate_left
  ·have g := of_decide_eq_false (show decide (Ln_ w) = false from g)
   intro _
   exact no (fun h => g h.2.1)
  have g2 := of_decide_eq_true (show decide (Ln_ w) = true from g)
  intro _
  refine ⟨_, .inr rfl, ?_, rfl⟩
  show V.test (hh == 0) = .test (decide (Xok nd w k hh))
  by_cases e : hh = 0
  ·rw [decide_eq_true (show Xok nd w k hh from ⟨g1, g2, .inr ⟨.inl gk, e⟩⟩), e]; rfl
  ·rw [decide_eq_false (fun h : Xok nd w k hh => h.2.2.elim (fun q => by omega) (fun q => e q.2)), show (hh == 0) = false from beq_eq_false_iff_ne.2 e]
 have gk2 : k ≠ 2 := by simpa using (show (k == 2) = false from g)
 intro _; refine ⟨fun g => ?_, fun g => ?_⟩
 ·have gk : k = 3 := by simpa using (show (k == 3) = true from g)
  intro _
  refine id_test _ _ _ ?_
  intro _; refine ⟨fun g => ?_, fun g => ?_⟩
  rotate_left
  ·have g := of_decide_eq_false (show decide (Id_ nd) = false from g)
   intro _
   exact no (fun h => g h.1)
  have g1 := of_decide_eq_true (show decide (Id_ nd) = true from g)
  intro _
  refine len_test _ _ _ ?_
  intro _; refine ⟨fun g => ?_, fun g => ?_⟩
  rotate_left
  ·have g := of_decide_eq_false (show decide (Ln_ w) = false from g)
   intro _
   exact no (fun h => g h.2.1)
  have g2 := of_decide_eq_true (show decide (Ln_ w) = true from g)
  intro _
  refine ⟨_, .inr rfl, ?_, rfl⟩
  show V.test (hh == 0) = .test (decide (Xok nd w k hh))
  by_cases e : hh = 0
  ·rw [decide_eq_true (show Xok nd w k hh from ⟨g1, g2, .inr ⟨.inr gk, e⟩⟩), e]; rfl
  ·rw [decide_eq_false (fun h : Xok nd w k hh => h.2.2.elim (fun q => by omega) (fun q => e q.2)), show (hh == 0) = false from beq_eq_false_iff_ne.2 e]
 have gk3 : k ≠ 3 := by simpa using (show (k == 3) = false from g)
 intro _
 exact no (fun h => h.2.2.elim (fun q => gk1 q.1) (fun q => q.1.elim gk2 gk3))
def jd (k hh p mo : Int) (a : Ac) : Ac :=
 if a.fr then a else
  ⟨a.nd, if k = 2 ∨ (k = 1 ∧ hh - p ≠ 0) then min (a.ch + 1) 1000000000 else a.ch, if k = 1 ∧ hh - p ≠ a.la then min (a.cg + 1) 1000000000 else a.cg, if k = 1 ∧ hh - p ≠ a.la then hh - p else a.la, decide ((if k = 1 ∧ hh - p ≠ a.la then min (a.cg + 1) 1000000000 else a.cg) > mo)⟩
theorem jd_eq {k hh p mo : Int} {a : Ac} {ch cg la : Int} (gf : a.fr = false) (h1 : ch = if k = 2 ∨ (k = 1 ∧ hh - p ≠ 0) then min (a.ch + 1) 1000000000 else a.ch) (h2 : cg = if k = 1 ∧ hh - p ≠ a.la then min (a.cg + 1) 1000000000 else a.cg) (h3 : la = if k = 1 ∧ hh - p ≠ a.la then hh - p else a.la) : jd k hh p mo a = ⟨a.nd, ch, cg, la, decide (cg > mo)⟩ := by
 subst h1 h2 h3
 unfold jd
 rw [if_neg (by rw [gf]; decide)]
theorem mutB {y : Nat} {a b : Ac} {mo : Int} {h' : H} (hd : Go.Vm2.look h'.l 0 = some (BK b mo)) : mutNew [(0, some y)] h'.l [(0, BK a mo)] = some [(y, BK b mo)] := by
 have e0 : Go.Vm2.look [((0 : Nat), some y)] 0 = some (some y) := rfl
 simp [mutNew, Ob.own, hd, e0, plainO, namelesss, nameless]
set_option maxHeartbeats 4000000 in
theorem judge_ok (a : Ac) (nd w k hh p mo : Int) (hA : Aok a) (hX : Ln_ hh) (hp : Ln_ p) : SemF Try.prog 35 [.ptr 0 0, XV nd w k hh, .int .i64 p] ⟨1, 0, [(0, BK a mo)]⟩ (fun v h' => v = .tup [] ∧ Go.Vm2.look h'.l 0 = some (BK (jd k hh p mo a) mo)) := by
 obtain ⟨i1, ⟨c1, c2⟩, ⟨d1, d2⟩, l1, l2⟩ := hA
 have h1 := hX.1; have h2 := hX.2; have p1 := hp.1; have p2 := hp.2
 have eD : IntKind.i64.wrap (hh - p) = hh - p := wrapS _ ⟨by omega, by omega⟩
 have eC : IntKind.i64.wrap (a.ch + 1) = a.ch + 1 := wrapS _ ⟨by omega, by omega⟩
 have eG : IntKind.i64.wrap (a.cg + 1) = a.cg + 1 := wrapS _ ⟨by omega, by omega⟩
 refine enter tt_ok Try.func35 (nt := 72) (cd := body Try.f35) rfl rfl rfl rfl ?_
 intro _; refine ⟨fun g => ?_, fun g => ?_⟩
 ·have g : a.fr = true := g
  intro _
  refine ⟨rfl, ?_⟩
  have e : jd k hh p mo a = a := by unfold jd; rw [if_pos g]
  rw [e]
  show some (Ob.cells [.int .i64 a.nd, .int .i64 a.ch, .int .i64 a.cg, .int .i64 a.la, .test a.fr, .int .i64 mo]) = some (BK a mo)
  rfl
 have gf : a.fr = false := g
 intro _; refine ⟨fun g => ?_, fun g => ?_⟩
 ·have gk : k = 1 := by simpa using (show (k == 1) = true from g)
  intro _; refine ⟨fun g => ?_, fun g => ?_⟩
  ·have gd : (IntKind.i64.wrap (hh - p) != a.la) = true := g
   rw [eD] at gd
   have gd := bne_iff_ne.1 gd
   intro _; refine ⟨fun g => ?_, fun g => ?_⟩
   ·have gz : (IntKind.i64.wrap (hh - p) == 0) = true := g
    rw [eD] at gz
    have gz : hh - p = 0 := by simpa using gz
    intro _; refine ⟨by kernel_rfl, ?_⟩
    intro _
    refine ⟨rfl, ?_⟩
    rw [jd_eq (ch := a.ch) (cg := min (IntKind.i64.wrap (a.cg + 1)) 1000000000) (la := IntKind.i64.wrap (hh - p)) gf (by rw [if_neg (by omega)]) (by rw [if_pos ⟨gk, gd⟩, eG]) (by rw [if_pos ⟨gk, gd⟩, eD])]
    rfl
   have gz : (IntKind.i64.wrap (hh - p) == 0) = false := g
   rw [eD] at gz
   have gz : hh - p ≠ 0 := by simpa using gz
   intro _; refine ⟨by kernel_rfl, ?_⟩
   intro _
   refine ⟨rfl, ?_⟩
   rw [jd_eq (ch := min (IntKind.i64.wrap (a.ch + 1)) 1000000000) (cg := min (IntKind.i64.wrap (a.cg + 1)) 1000000000) (la := IntKind.i64.wrap (hh - p)) gf (by rw [if_pos (.inr ⟨gk, gz⟩), eC]) (by rw [if_pos ⟨gk, gd⟩, eG]) (by rw [if_pos ⟨gk, gd⟩, eD])]
   rfl
  have gd : (IntKind.i64.wrap (hh - p) != a.la) = false := g
  rw [eD] at gd
  have gd := bne_eq_false_iff_eq.1 gd
  intro _; refine ⟨fun g => ?_, fun g => ?_⟩
  ·have gz : (IntKind.i64.wrap (hh - p) == 0) = true := g
   rw [eD] at gz
   have gz : hh - p = 0 := by simpa using gz
   intro _; refine ⟨by kernel_rfl, ?_⟩
   intro _
   refine ⟨rfl, ?_⟩
   rw [jd_eq (ch := a.ch) (cg := a.cg) (la := a.la) gf (by rw [if_neg (by omega)]) (by rw [if_neg (fun q => q.2 gd)]) (by rw [if_neg (fun q => q.2 gd)])]
   rfl
  have gz : (IntKind.i64.wrap (hh - p) == 0) = false := g
  rw [eD] at gz
  have gz : hh - p ≠ 0 := by simpa using gz
  intro _; refine ⟨by kernel_rfl, ?_⟩
  intro _
  refine ⟨rfl, ?_⟩
  rw [jd_eq (ch := min (IntKind.i64.wrap (a.ch + 1)) 1000000000) (cg := a.cg) (la := a.la) gf (by rw [if_pos (.inr ⟨gk, gz⟩), eC]) (by rw [if_neg (fun q => q.2 gd)]) (by rw [if_neg (fun q => q.2 gd)])]
  rfl
 have gk1 : k ≠ 1 := by simpa using (show (k == 1) = false from g)
 intro _; refine ⟨fun g => ?_, fun g => ?_⟩
 ·have gk : k = 2 := by simpa using (show (k == 2) = true from g)
  intro _; refine ⟨by kernel_rfl, ?_⟩
  intro _
  refine ⟨rfl, ?_⟩
  rw [jd_eq (ch := min (IntKind.i64.wrap (a.ch + 1)) 1000000000) (cg := a.cg) (la := a.la) gf (by rw [if_pos (.inl gk), eC]) (by rw [if_neg (fun q => gk1 q.1)]) (by rw [if_neg (fun q => gk1 q.1)])]
  rfl
 have gk2 : k ≠ 2 := by simpa using (show (k == 2) = false from g)
 intro _; refine ⟨by kernel_rfl, ?_⟩
 intro _
 refine ⟨rfl, ?_⟩
 rw [jd_eq (ch := a.ch) (cg := a.cg) (la := a.la) gf (by rw [if_neg (fun q => q.elim gk2 (fun q => gk1 q.1))]) (by rw [if_neg (fun q => gk1 q.1)]) (by rw [if_neg (fun q => gk1 q.1)])]
 rfl
section
variable {P : Program}
def ownObs (m : Nat) : List (Nat × Ob) → Bool
 | [] => true
 | (x, o) :: l => (match o with
  | .arr _ md _ => modeOwn md && Nat.ble m x
  | .cells cs => namesGes m cs && Nat.ble m x
  | _ => false) && ownObs m l
theorem ownObs_look {m : Nat} : ∀ {l : List (Nat × Ob)} {x : Nat} {o : Ob}, ownObs m l = true → Go.Vm2.look l x = some o → m ≤ x ∧ o.own = true ∧ ((∃ ks md a, o = .arr ks md a) ∨ (∃ cs, o = .cells cs ∧ namesGes m cs = true))
 | [], x, o, h, e => by simp [Go.Vm2.look] at e
 | (z, q) :: l, x, o, h, e => by
  simp only [ownObs, Bool.and_eq_true] at h
  rw [look_cons] at e
  split at e
  ·rename_i e'; subst e'; simp at e; subst e
   have h1 := h.1
   split at h1
   ·rename_i ks md a
    simp only [Bool.and_eq_true] at h1
    refine ⟨Nat.le_of_ble_eq_true h1.2, ?_, .inl ⟨ks, md, a, rfl⟩⟩
    cases md <;> first | rfl | (cases h1.1)
   ·rename_i cs
    simp only [Bool.and_eq_true] at h1
    exact ⟨Nat.le_of_ble_eq_true h1.2, rfl, .inr ⟨cs, rfl, h1.1⟩⟩
   ·cases h1
  ·exact ownObs_look h.2 e
theorem join2 {c c0 : Px} {ν ν' : Nu} {h : H} {n2 fz2 k : Nat} {L : List (Nat × Ob)} {s : Go.Vm.St} (r : R c ν h s) (r' : R c0 ν' ⟨n2, fz2, L⟩ s) (hn : h.nx ≤ n2) (hf2 : fz2 ≤ h.nx) (hL : ownObs h.nx L = true)
  (hold : ∀ x o B b, h.get x = some o → o.live = true → ν x = some (B, b) → (c0.G B).isSome = true) (hG : ∀ b, (c.G b).isSome = true → (c0.G b).isSome = true)
  (hk : ∀ x B b, x < h.nx → ν x = some (B, b) → B < k) (hk' : ∀ x B b, h.nx ≤ x → x < n2 → ν' x = some (B, b) → k ≤ B) (hTH : ∀ D, c.TH D → c0.TH D) (hlo : c.lo ≤ k) :
  R c (fun x => if x < h.nx then ν x else ν' x) ⟨n2, h.fz, app L h.l⟩ s := by
 have e1 : ∀ x, x < h.nx → (if x < h.nx then ν x else ν' x) = ν x := fun x hx => if_pos hx
 have e2 : ∀ x, h.nx ≤ x → (if x < h.nx then ν x else ν' x) = ν' x := fun x hx => if_neg (by omega)
 have cas : ∀ x o, H.get ⟨n2, h.fz, app L h.l⟩ x = some o → (h.nx ≤ x ∧ Go.Vm2.look L x = some o ∧ o.own = true ∧ ((∃ ks md a, o = .arr ks md a) ∨ (∃ cs, o = .cells cs ∧ namesGes h.nx cs = true))) ∨ (x < h.nx ∧ h.get x = some o) := by
  intro x o hx
  unfold H.get at hx
  simp only [] at hx
  rw [look_app] at hx
  split at hx
  ·rename_i q hq
   cases hx
   obtain ⟨k1, k2, k3⟩ := ownObs_look hL hq
   exact .inl ⟨k1, hq, k2, k3⟩
  ·exact .inr ⟨r.lt x o hx, hx⟩
 have new : ∀ x o B b, Go.Vm2.look L x = some o → h.nx ≤ x → ν' x = some (B, b) → k ≤ B := fun x o B b h1 h2 h3 => hk' x B b h2 (r'.lt x o h1) h3
 refine ⟨r.ok, ?_, ?_, ?_, ?_, r.froz, r.kin, ?_, r.tc, Nat.le_trans r.p_le hn, r.lo_le, ?_, ?_, r.snap⟩
 ·intro x o hx
  rcases cas x o hx with ⟨k1, k2, k3, ⟨ks, md, a, rfl⟩ | ⟨cs, rfl, k4⟩⟩ | ⟨k1, k2⟩
  ·exact sameC_arr (r'.obj x _ k2) (e2 x k1)
  ·obtain ⟨B, av0, e, z, g1, g2, g3⟩ := r'.obj x _ k2
   exact ⟨B, av0, e, z, (e2 x k1).trans g1, g2, namesGes_cv (fun y hy => e2 y hy) k4 g3⟩
  ·exact (r.obj x o k2).mono k1 (fun x hx => e1 x hx) hn (fun _ _ _ => rfl)
 ·intro x o hx
  rcases cas x o hx with ⟨k1, k2, _⟩ | ⟨k1, k2⟩
  ·exact r'.lt x o k2
  ·exact Nat.lt_of_lt_of_le k1 hn
 ·intro x y o o' B B' b b' hxy hx hy hf hown hl hB hB'
  simp only [] at hB hB' hf
  rcases cas x o hx with ⟨k1, k2, k3, _⟩ | ⟨k1, k2⟩
  ·rw [e2 x k1] at hB
   rcases cas y o' hy with ⟨m1, m2, m3, _⟩ | ⟨m1, m2⟩
   ·rw [e2 y m1] at hB'
    exact r'.sep x y o o' B B' b b' hxy k2 m2 (by simp only []; omega) hown hl hB hB'
   ·rw [e1 y m1] at hB'
    exact r'.gsep x o B b B' k2 (by simp only []; omega) hown hB (hold y o' B' b' m2 hl hB')
  ·rw [e1 x k1] at hB
   rcases cas y o' hy with ⟨m1, m2, m3, _⟩ | ⟨m1, m2⟩
   ·rw [e2 y m1] at hB'
    have := r'.gsep y o' B' b' B m2 (by simp only []; omega) m3 hB' (hold x o B b k2 (own_live _ hown) hB)
    exact ⟨fun e => this.1 e.symm, fun e => this.2 e.symm⟩
   ·rw [e1 y m1] at hB'
    exact r.sep x y o o' B B' b b' hxy k2 m2 hf hown hl hB hB'
 ·intro x o B b b' hx hf hown hB hGb
  simp only [] at hB hf
  rcases cas x o hx with ⟨k1, k2, k3, _⟩ | ⟨k1, k2⟩
  ·rw [e2 x k1] at hB
   exact r'.gsep x o B b b' k2 (by simp only []; omega) hown hB (hG b' hGb)
  ·rw [e1 x k1] at hB
   exact r.gsep x o B b b' k2 hf hown hB hGb
 ·intro D hD
  obtain ⟨h1, h2, h3, h4⟩ := r.th D hD
  refine ⟨h1, h2, h3, fun x o B b hx hf hown hB => ?_⟩
  simp only [] at hB hf
  rcases cas x o hx with ⟨k1, k2, k3, _⟩ | ⟨k1, k2⟩
  ·rw [e2 x k1] at hB
   exact (r'.th D (hTH D hD)).2.2.2 x o B b k2 (by simp only []; omega) hown hB
  ·rw [e1 x k1] at hB
   exact h4 x o B b k2 hf hown hB
 ·intro x B b hx hlt hB
  simp only [] at hB hlt
  rcases Nat.lt_or_ge x h.nx with e | e
  ·rw [e1 x e] at hB; exact r.new x B b hx e hB
  ·rw [e2 x e] at hB; exact Nat.le_trans hlo (hk' x B b e hlt hB)
 ·intro x B b hlt hB
  simp only [] at hB hlt
  rcases Nat.lt_or_ge x h.nx with e | e
  ·rw [e1 x e] at hB; exact r.blk x B b e hB
  ·rw [e2 x e] at hB; exact r'.blk x B b hlt hB
theorem call_new2 {fid : FuncId} {args0 args : List V} {h0 h : H} {Q : V → H → Prop} {K : V → H → Prop} (θ : Th) (hc : SemF P fid args0 h0 Q) (hfz : h0.fz = h0.nx)
  (ho : okTh 0 h0.nx h.nx h0.nx θ = true) (hns : namesOk h0.nx h0.l = true) (hle : Nat.ble h0.nx h.nx = true) (hH : sameH θ h.l h0.l) (ha : sameVs θ args0 args)
  (hK : ∀ v h', Q v h' → ∃ (θ' : Th) (n2 : Nat) (L : List (Nat × Ob)) (v2 : V), okNew h.nx n2 h0.nx h'.nx θ' = true ∧ Nat.ble h.nx n2 = true ∧ namesOk n2 L = true ∧ ownObs h.nx L = true ∧ namesGe h.nx v2 = true ∧ sameV θ' v2 v ∧ sameH θ' h'.l L ∧ K v2 ⟨n2, h.fz, app L h.l⟩) : SemF P fid args h K := by
 refine ⟨fun c ν s as1 r has => ?_⟩
 let M := max h.nx h0.nx
 let c0 : Px := { c with G := s.get, p := 0, lo := 0 }
 have r1 : R c0 ν ⟨h.nx, M, h.l⟩ s := by
  have rf := r.freeze (fz := M) (Nat.le_max_left _ _)
  refine ⟨rf.ok, rf.obj, rf.lt, rf.sep, ?_, fun _ _ e => e, rf.kin, rf.th, rf.tc, Nat.zero_le _, Nat.zero_le _, fun _ _ _ _ _ _ => Nat.zero_le _, rf.blk, rf.snap⟩
  intro x o B b b' hx hf _ _ _
  have h1 : x < h.nx := rf.lt x o hx
  have h2 : h.nx ≤ M := Nat.le_max_left h.nx h0.nx
  have h3 : M ≤ x := hf
  omega
 have r2 := R.ren (h := ⟨h0.nx, M, h0.l⟩) (θ := θ) r1 (okTh_fz ho (Nat.le_max_right _ _)) (Nat.zero_le _) (Nat.zero_le _) hns rfl hH
 have r3 : R c0 (ν.ren 0 h0.nx θ) h0 s := by
  have := r2.freeze (fz := h0.nx) (Nat.le_refl _)
  obtain ⟨nx, fz, l⟩ := h0
  simp only [] at hfz
  subst hfz
  exact this
 have has2 : Cvs h0.nx (ν.ren 0 h0.nx θ) args0 as1 := sameVs_ok ho ha has
 obtain ⟨N, a, s', v, h', ν', ⟨os, q1, rfl⟩, q3, q4, q5, q6⟩ := hc.run _ _ s as1 r3 has2
 obtain ⟨θ', n2, L, v2, w1, w2, w3, w4, w5, w6, w7, w8⟩ := hK v h' q3
 have hle := Nat.le_of_ble_eq_true hle
 have hn2 := Nat.le_of_ble_eq_true w2
 have old : ∀ b o, s.get b = some o → (os.getD s).get b = some o := fun b o e => q4.froz b o e
 have rs : R c ν h (os.getD s) := by
  refine r.swap r.p_le (Nat.le_trans r.lo_le q6.n) q6.n r.new q4.ok ?_ (fun b o e => ⟨old b o (r.froz b o e), r.froz b o e⟩) (fun _ _ e => e) q4.kin ?_ ?_ ?_
  ·intro x o B b hx hl hB
   obtain ⟨q, hq⟩ := (r.obj x o hx).here hl hB
   rw [hq]; exact old B q hq
  ·intro D hD
   obtain ⟨h1, h2, h3, h4⟩ := q4.th D hD
   exact ⟨hD, h1, h2, h3⟩
  ·intro D hD
   exact q4.tc D hD
  ·exact q4.snap
 have hfz' : h'.fz = h0.nx := by rw [q6.fz, hfz]
 have w1' := okNew_ok w1
 have rn : R c0 (ν'.ren 0 n2 θ') ⟨n2, h'.fz, L⟩ (os.getD s) := R.ren (h := ⟨n2, h'.fz, L⟩) q4 (by rw [← hfz'] at w1'; exact w1') (Nat.zero_le _) (Nat.zero_le _) w3 rfl w7
 have newB : ∀ x B b, h.nx ≤ x → x < n2 → ν'.ren 0 n2 θ' x = some (B, b) → s.n ≤ B := by
  intro x B b h1 h2 h3
  unfold Nu.ren at h3
  rw [if_neg (by omega), if_pos h2] at h3
  split at h3
  ·rename_i y hy
   obtain ⟨k1, k2⟩ := okNew_look w1 hy
   obtain ⟨k3, k4⟩ := k2 y rfl
   exact q6.new y B b k3 k4 h3
  ·cases h3
 have rj := join2 rs rn hn2 (by rw [hfz']; exact hle) w4 (k := s.n) (fun x o B b hx hl hB => by
   obtain ⟨q, hq⟩ := (r.obj x o hx).here hl hB
   show (s.get B).isSome = true
   rw [hq]; rfl) (fun b hb => by
   cases hcb : c.G b with
   | none => rw [hcb] at hb; cases hb
   | some o => show (s.get b).isSome = true; rw [r.froz b o hcb]; rfl) (fun x B b hx hB => r.blk x B b hx hB) newB (fun D hD => hD) r.lo_le
 refine ⟨N, a, os.getD s, v2, ⟨n2, h.fz, app L h.l⟩, _, ⟨os, q1, rfl⟩, w8, rj, ?_, ⟨fun x hx => if_pos hx, hn2, rfl, q6.n, fun x B b h1 h2 h3 => ?_⟩⟩
 ·exact namesGe_cv (fun x hx => if_neg (by omega)) w5 (sameV_ok w1' w6 q5)
 ·simp only [] at h3 h2
  rw [if_neg (by omega)] at h3
  exact newB x B b h1 h2 h3
end
def Wc (nd mo : Int) (ps : Rws) : Prop := Id_ nd ∧ (0 ≤ mo ∧ mo ≤ 100) ∧ Vd ps ∧ ∀ i, i < (vals ps).length → Ln_ (raw (vals ps) i)
abbrev CV (nd mo : Int) (ps : Rws) (y : Nat) : V := .agg [.int .i64 nd, .int .i64 mo, .slc y 5 0 ps.length]
abbrev HP (ps : Rws) : List (Nat × Ob) := [(4, .cells [.int .i64 (((vals ps).length : Int) - 1)]), (3, .cells [.int .i64 (gx ps 0 0)]), (2, .cells [.grw 1 (vals ps).length]), (1, .arr [.int .i64] .grow (.ints (vals ps)))]
abbrev HPat (ps : Rws) (y : Nat) : List (Nat × Ob) := [(y + 3, .cells [.int .i64 (((vals ps).length : Int) - 1)]), (y + 2, .cells [.int .i64 (gx ps 0 0)]), (y + 1, .cells [.grw y (vals ps).length]), (y, .arr [.int .i64] .grow (.ints (vals ps)))]
def PmR (nd mo : Int) (ps : Rws) (v : V) (h' : H) : Prop :=
 (Wc nd mo ps ∧ v = .tup [.fn 41 [] [.ptr 2 0, .ptr 3 0, .ptr 4 0], .bool true] ∧ h' = ⟨5, 1, HP ps⟩) ∨ (¬ Wc nd mo ps ∧ v = .tup [.nilf, .bool false] ∧ h' = ⟨1, 1, []⟩)
set_option maxHeartbeats 4000000 in
theorem promises_ok (nd mo : Int) (ps : Rws) (hb : gb ps) : SemF Try.prog 26 [CV nd mo ps 0] ⟨1, 1, DP ps⟩ (PmR nd mo ps) := by
 refine SemF.ret ?_
 refine enter tt_ok Try.func26 (nt := 51) (cd := body Try.f26) rfl rfl rfl rfl ?_
 intro _
 refine id_test _ _ _ ?_
 intro _; refine ⟨fun g => ?_, fun g => ?_⟩
 ·have g0 : (!decide (Id_ nd)) = true := g
  rw [Bool.not_eq_true'] at g0
  have g0 := of_decide_eq_false g0
  intro _
  refine ⟨[], .tup [.nilf, .bool false], ⟨1, 1, []⟩, rfl, rfl, rfl, rfl, ?_, ?_, .inr ⟨fun h => g0 h.1, rfl, rfl⟩⟩
  ·and_intros<;>try first|exact trivial|exact rfl
  ·and_intros<;>try first|exact trivial|exact rfl
 have g0 : (!decide (Id_ nd)) = false := g
 rw [Bool.not_eq_false'] at g0
 have g0 := of_decide_eq_true g0
 intro _; refine ⟨fun g => ?_, fun g => ?_⟩
 ·have g1 := of_decide_eq_true (show decide (mo < 0) = true from g)
  intro _
  refine ⟨[], .tup [.nilf, .bool false], ⟨1, 1, []⟩, rfl, rfl, rfl, rfl, ?_, ?_, .inr ⟨fun h => by have := h.2.1.1; omega, rfl, rfl⟩⟩
  ·and_intros<;>try first|exact trivial|exact rfl
  ·and_intros<;>try first|exact trivial|exact rfl
 have g1 := of_decide_eq_false (show decide (mo < 0) = false from g)
 intro _; refine ⟨fun g => ?_, fun g => ?_⟩
 ·have g2 := of_decide_eq_true (show decide (mo > 100) = true from g)
  intro _
  refine ⟨[], .tup [.nilf, .bool false], ⟨1, 1, []⟩, rfl, rfl, rfl, rfl, ?_, ?_, .inr ⟨fun h => by have := h.2.1.2; omega, rfl, rfl⟩⟩
  ·and_intros<;>try first|exact trivial|exact rfl
  ·and_intros<;>try first|exact trivial|exact rfl
 have g2 := of_decide_eq_false (show decide (mo > 100) = false from g)
 intro _
 refine call_new [(0, some 0)] (values_ok ps hb) rfl rfl rfl rfl ?_ ?_ ?_
 ·and_intros<;>try first|exact trivial|exact rfl
 ·and_intros<;>try first|exact trivial|exact rfl
 intro v h' hv
 rcases hv with ⟨hV, rfl, rfl⟩ | ⟨hV, rfl, rfl⟩
 rotate_left
 ·refine ⟨[], 2, [], .tup [.nils, .int .i64 1], rfl, rfl, rfl, rfl, rfl, ?_, ?_, ?_⟩
  ·and_intros<;>try first|exact trivial|exact rfl
  ·and_intros<;>try first|exact trivial|exact rfl
  intro _; refine ⟨fun g => ?_, fun g => ?_⟩
  rotate_left
  ·exact absurd (show ((1 : Int) != 0) = false from g) (by decide)
  intro _
  refine ⟨[], .tup [.nilf, .bool false], ⟨1, 1, []⟩, rfl, rfl, rfl, rfl, ?_, ?_, .inr ⟨fun h => hV h.2.2.1, rfl, rfl⟩⟩
  ·and_intros<;>try first|exact trivial|exact rfl
  ·and_intros<;>try first|exact trivial|exact rfl
 refine ⟨[(2, some 1)], 3, [(2, .arr [.int .i64] .grow (.ints (vals ps)))], .tup [.grw 2 (vals ps).length, .int .i64 0], rfl, rfl, rfl, rfl, rfl, ?_, ?_, ?_⟩
 ·and_intros<;>try first|exact trivial|exact rfl
 ·and_intros<;>try first|exact trivial|exact rfl
 have h1 := hV.len.1; have h2 := hV.len.2.1
 have p1 : 1 ≤ ps.length := hV.1.1.1
 intro _; refine ⟨fun g => ?_, fun g => ?_⟩
 ·exact absurd (show ((0 : Int) != 0) = true from g) (by decide)
 intro _
 refine loop2 tt_ok [34] [] 4 (fun k : { k : Nat // k ≤ (vals ps).length ∧ ∀ i, i < k → Ln_ (raw (vals ps) i) } => [(34, .int .i64 (k.1 : Nat))]) (fun _ => []) (fun k => (vals ps).length - k.1) ⟨0, Nat.zero_le _, fun i h => by omega⟩ ?_
 intro _
 refine ⟨⟨th [] 4, rfl, rfl, rfl, rfl, rfl, rfl, ?_, ?_⟩, ?_⟩
 ·and_intros<;>try first|exact trivial|exact rfl
 ·and_intros<;>try first|exact trivial|exact rfl
 intro ⟨k, hk, hm⟩
 have hk : k ≤ (vals ps).length := hk
 intro _; refine ⟨fun g => ?_, fun g => ?_⟩
 rotate_left
 ·have g := of_decide_eq_false (show decide ((k : Int) < ((vals ps).length : Int)) = false from g)
  have e : k = (vals ps).length := by omega
  subst e
  intro _; refine ⟨show (0 : Int) ≤ 0 ∧ (0 : Int) < (ps.length : Int) by omega, ?_⟩
  intro _; refine ⟨show 0 + (0 : Int).toNat < ps.length by show 0 + 0 < ps.length; omega, ?_⟩
  intro _; refine ⟨by kernel_rfl, ?_⟩
  intro _
  have eL : IntKind.i64.wrap (((vals ps).length : Int) - 1) = ((vals ps).length : Int) - 1 := wrapS _ ⟨by omega, by omega⟩
  refine ⟨[(1, some 2), (2, some 3), (3, some 4), (4, some 5)], .tup [.fn 41 [] [.ptr 2 0, .ptr 3 0, .ptr 4 0], .bool true], ⟨5, 1, HP ps⟩, rfl, rfl, rfl, rfl, ?_, ?_, .inl ⟨⟨g0, by omega, hV, hm⟩, rfl, rfl⟩⟩
  ·and_intros<;>try first|exact trivial|exact rfl
  ·and_intros<;>try first|exact trivial|exact rfl
   exact eL.symm
 have g := of_decide_eq_true (show decide ((k : Int) < ((vals ps).length : Int)) = true from g)
 have z : ((k : Nat) : Int).toNat = k := by omega
 intro _; refine ⟨show 0 ≤ (k : Int) ∧ (k : Int) < ((vals ps).length : Int) by omega, ?_⟩
 intro _; refine ⟨show (k : Int).toNat < (vals ps).length by omega, ?_⟩
 intro _
 refine len_test _ _ _ ?_
 intro _; refine ⟨fun g => ?_, fun g => ?_⟩
 ·have g3 : (!decide (Ln_ (raw (vals ps) ((k : Nat) : Int).toNat))) = true := g
  rw [Bool.not_eq_true', z] at g3
  have g3 := of_decide_eq_false g3
  intro _
  refine ⟨[], .tup [.nilf, .bool false], ⟨1, 1, []⟩, rfl, rfl, rfl, rfl, ?_, ?_, .inr ⟨fun h => g3 (h.2.2.2 k (by omega)), rfl, rfl⟩⟩
  ·and_intros<;>try first|exact trivial|exact rfl
  ·and_intros<;>try first|exact trivial|exact rfl
 have g3 : (!decide (Ln_ (raw (vals ps) ((k : Nat) : Int).toNat))) = false := g
 rw [Bool.not_eq_false', z] at g3
 have g3 := of_decide_eq_true g3
 refine ⟨⟨k + 1, by omega, fun i hi => ?_⟩, by show (vals ps).length - (k + 1) < (vals ps).length - k; omega, th [] 4, rfl, rfl, rfl, rfl, rfl, rfl, ?_, ?_⟩
 ·by_cases e : i = k
  ·subst e; exact g3
  ·exact hm i (by omega)
 ·and_intros<;>try first|exact trivial|exact rfl
  exact (wrap_nat k (by omega)).symm
 ·and_intros<;>try first|exact trivial|exact rfl
theorem Wc.v {nd mo : Int} {ps : Rws} (h : Wc nd mo ps) : (1 ≤ (vals ps).length ∧ (vals ps).length ≤ 4000) ∧ (0 ≤ gx ps 0 0 ∧ gx ps 0 0 ≤ 4000) := by
 have l := h.2.2.1.len
 have m := l.2.2
 exact ⟨⟨l.1, l.2.1⟩, m.2.1, by have := m.2.2; have := l.1; omega⟩
theorem cvalid_ok (nd mo : Int) (ps : Rws) (hb : gb ps) : SemF Try.prog 14 [CV nd mo ps 0] ⟨1, 1, DP ps⟩ (fun v _ => ((Wc nd mo ps ∧ v = .bool true) ∨ (¬ Wc nd mo ps ∧ v = .bool false)) ∧ nameless v = true) := by
 refine enter tt_ok Try.func14 (nt := 11) (cd := body Try.f14) rfl rfl rfl rfl ?_
 intro _
 refine call_new2 [(0, some 0)] (promises_ok nd mo ps hb) rfl rfl rfl rfl ?_ ?_ ?_
 ·and_intros<;>try first|exact trivial|exact rfl
 ·and_intros<;>try first|exact trivial|exact rfl
 intro v h' hv
 rcases hv with ⟨hW, rfl, rfl⟩ | ⟨hW, rfl, rfl⟩
 rotate_left
 ·refine ⟨[], 2, [], .tup [.nilf, .bool false], rfl, rfl, rfl, rfl, rfl, ?_, ?_, ?_⟩
  ·and_intros<;>try first|exact trivial|exact rfl
  ·and_intros<;>try first|exact trivial|exact rfl
  intro _
  exact ⟨.inr ⟨hW, rfl⟩, rfl⟩
 refine ⟨[(2, some 1), (3, some 2), (4, some 3), (5, some 4)], 6, HPat ps 2, .tup [.fn 41 [] [.ptr 3 0, .ptr 4 0, .ptr 5 0], .bool true], rfl, rfl, rfl, rfl, rfl, ?_, ?_, ?_⟩
 ·and_intros<;>try first|exact trivial|exact rfl
 ·and_intros<;>try first|exact trivial|exact rfl
 intro _
 exact ⟨.inl ⟨hW, rfl⟩, rfl⟩
theorem semF_seen {fid : FuncId} {args : List V} {h : H} {K : V → H → Prop} (hs : SemF Try.prog fid args h (fun v h' => ∃ v', (∀ n ν a, Cv n ν v a → Cv n ν v' a) ∧ K v' h')) : SemF Try.prog fid args h K := by
 refine ⟨fun c ν s «as» r has => ?_⟩
 obtain ⟨N, a, s', v, h', ν', q1, ⟨v', hv, hk⟩, q3, q4, q5⟩ := hs.run c ν s «as» r has
 exact ⟨N, a, s', v', h', ν', q1, hk, q3, hv _ _ _ q4, q5⟩
def PdR (nd mo : Int) (ps : Rws) (w : Int) (v : V) : Prop :=
 (Wc nd mo ps ∧ Ln_ w ∧ v = .tup [.int .i64 (pr (vals ps) (gx ps 0 0) w), .int .i64 0]) ∨ (¬ (Wc nd mo ps ∧ Ln_ w) ∧ v = .tup [.int .i64 0, .int .i64 1])
theorem Wc.pr {nd mo : Int} {ps : Rws} (h : Wc nd mo ps) (w : Int) : Ln_ (pr (vals ps) (gx ps 0 0) w) := by
 have l := h.v.1
 exact h.2.2.2 _ (by omega)
set_option maxHeartbeats 4000000 in
theorem promised_ok (nd mo : Int) (ps : Rws) (w : Int) (hb : gb ps) : SemF Try.prog 12 [CV nd mo ps 0, .int .i64 w] ⟨1, 1, DP ps⟩ (fun v _ => PdR nd mo ps w v ∧ nameless v = true) := by
 refine enter tt_ok Try.func12 (nt := 23) (cd := body Try.f12) rfl rfl rfl rfl ?_
 intro _
 refine call_new2 [(0, some 0)] (promises_ok nd mo ps hb) rfl rfl rfl rfl ?_ ?_ ?_
 ·and_intros<;>try first|exact trivial|exact rfl
 ·and_intros<;>try first|exact trivial|exact rfl
 intro v h' hv
 rcases hv with ⟨hW, rfl, rfl⟩ | ⟨hW, rfl, rfl⟩
 rotate_left
 ·refine ⟨[], 2, [], .tup [.nilf, .bool false], rfl, rfl, rfl, rfl, rfl, ?_, ?_, ?_⟩
  ·and_intros<;>try first|exact trivial|exact rfl
  ·and_intros<;>try first|exact trivial|exact rfl
  intro _
  exact ⟨.inr ⟨fun h => hW h.1, rfl⟩, rfl⟩
 refine ⟨[(2, some 1), (3, some 2), (4, some 3), (5, some 4)], 6, HPat ps 2, .tup [.fn 41 [] [.ptr 3 0, .ptr 4 0, .ptr 5 0], .bool true], rfl, rfl, rfl, rfl, rfl, ?_, ?_, ?_⟩
 ·and_intros<;>try first|exact trivial|exact rfl
 ·and_intros<;>try first|exact trivial|exact rfl
 intro _
 refine len_test _ _ _ ?_
 intro _; refine ⟨fun g => ?_, fun g => ?_⟩
 ·have g1 : (!decide (Ln_ w)) = true := g
  rw [Bool.not_eq_true'] at g1
  have g1 := of_decide_eq_false g1
  intro _
  exact ⟨.inr ⟨fun h => g1 h.2, rfl⟩, rfl⟩
 have g1 : (!decide (Ln_ w)) = false := g
 rw [Bool.not_eq_false'] at g1
 have g1 := of_decide_eq_true g1
 have hv := hW.v
 intro _
 refine call_pure [(0, some 2), (1, some 3), (2, some 4), (3, some 5)] (prom_ok (vals ps) (gx ps 0 0) w hv.1.1 hv.1.2 hv.2 g1) rfl rfl rfl ?_ ?_ ?_
 ·and_intros<;>try first|exact trivial|exact rfl
 ·and_intros<;>try first|exact trivial|exact rfl
 intro v hv _
 subst hv
 intro _
 exact ⟨.inl ⟨hW, g1, rfl⟩, rfl⟩
def Jok (nd mo : Int) (ps : Rws) (a : Ac) (xn w k hh : Int) : Prop := Wc nd mo ps ∧ Aok a ∧ Xok xn w k hh ∧ a.nd = nd ∧ xn = nd
def JuR (nd mo : Int) (ps : Rws) (a : Ac) (xn w k hh : Int) (v : V) : Prop :=
 (Jok nd mo ps a xn w k hh ∧ v = .tup [AV_ (jd k hh (pr (vals ps) (gx ps 0 0) w) mo a), .int .i64 (pr (vals ps) (gx ps 0 0) w), .test (decide (k = 1 ∧ hh > pr (vals ps) (gx ps 0 0) w)), .int .i64 0]) ∨ (¬ Jok nd mo ps a xn w k hh ∧ v = .tup [.agg [.int .i64 0, .int .i64 0, .int .i64 0, .int .i64 0, .bool false], .int .i64 0, .bool false, .int .i64 1])
set_option maxHeartbeats 8000000 in
theorem judge2_ok (nd mo : Int) (ps : Rws) (a : Ac) (xn w k hh : Int) (hb : gb ps) : SemF Try.prog 16 [CV nd mo ps 0, AV_ a, XV xn w k hh] ⟨1, 1, DP ps⟩ (fun v _ => JuR nd mo ps a xn w k hh v ∧ nameless v = true) := by
 refine semF_seen ?_
 refine enter tt_ok Try.func16 (nt := 69) (cd := body Try.f16) rfl rfl rfl rfl ?_
 intro _
 refine call_new2 [(0, some 0)] (promises_ok nd mo ps hb) rfl rfl rfl rfl ?_ ?_ ?_
 ·and_intros<;>try first|exact trivial|exact rfl
 ·and_intros<;>try first|exact trivial|exact rfl
 intro v h' hv
 have no : ¬ Jok nd mo ps a xn w k hh → JuR nd mo ps a xn w k hh (.tup [.agg [.int .i64 0, .int .i64 0, .int .i64 0, .int .i64 0, .bool false], .int .i64 0, .bool false, .int .i64 1]) ∧ nameless (.tup [.agg [.int .i64 0, .int .i64 0, .int .i64 0, .int .i64 0, .bool false], .int .i64 0, .bool false, .int .i64 1]) = true := fun h => ⟨.inr ⟨h, rfl⟩, rfl⟩
 have no' : ¬ Jok nd mo ps a xn w k hh → ∃ v', (∀ n ν a, Cv n ν (.tup [.agg [.int .i64 0, .int .i64 0, .int .i64 0, .int .i64 0, .bool false], .int .i64 0, .bool false, .int .i64 1]) a → Cv n ν v' a) ∧ JuR nd mo ps a xn w k hh v' ∧ nameless v' = true := fun h => ⟨_, fun _ _ _ q => q, no h⟩
 rcases hv with ⟨hW, rfl, rfl⟩ | ⟨hW, rfl, rfl⟩
 rotate_left
 ·refine ⟨[], 5, [], .tup [.nilf, .bool false], rfl, rfl, rfl, rfl, rfl, ?_, ?_, ?_⟩
  ·and_intros<;>try first|exact trivial|exact rfl
  ·and_intros<;>try first|exact trivial|exact rfl
  intro _
  exact no' (fun h => hW h.1)
 refine ⟨[(5, some 1), (6, some 2), (7, some 3), (8, some 4)], 9, HPat ps 5, .tup [.fn 41 [] [.ptr 6 0, .ptr 7 0, .ptr 8 0], .bool true], rfl, rfl, rfl, rfl, rfl, ?_, ?_, ?_⟩
 ·and_intros<;>try first|exact trivial|exact rfl
 ·and_intros<;>try first|exact trivial|exact rfl
 intro _
 refine call_pure [] (acc_ok a) rfl rfl rfl ?_ ?_ ?_
 ·and_intros<;>try first|exact trivial|exact rfl
 ·and_intros<;>try first|exact trivial|exact rfl
 intro v hv _
 subst hv
 intro _; refine ⟨fun g => ?_, fun g => ?_⟩
 ·have g1 : (!decide (Aok a)) = true := g
  rw [Bool.not_eq_true'] at g1
  have g1 := of_decide_eq_false g1
  intro _
  exact no' (fun h => g1 h.2.1)
 have g1 : (!decide (Aok a)) = false := g
 rw [Bool.not_eq_false'] at g1
 have g1 := of_decide_eq_true g1
 intro _
 refine call_pure [] (ans_ok xn w k hh) rfl rfl rfl ?_ ?_ ?_
 ·and_intros<;>try first|exact trivial|exact rfl
 ·and_intros<;>try first|exact trivial|exact rfl
 intro v hv _
 subst hv
 intro _; refine ⟨fun g => ?_, fun g => ?_⟩
 ·have g2 : (!decide (Xok xn w k hh)) = true := g
  rw [Bool.not_eq_true'] at g2
  have g2 := of_decide_eq_false g2
  intro _
  exact no' (fun h => g2 h.2.2.1)
 have g2 : (!decide (Xok xn w k hh)) = false := g
 rw [Bool.not_eq_false'] at g2
 have g2 := of_decide_eq_true g2
 intro _; refine ⟨fun g => ?_, fun g => ?_⟩
 ·have g3 : (a.nd != nd) = true := g
  have g3 := bne_iff_ne.1 g3
  intro _
  exact no' (fun h => g3 h.2.2.2.1)
 have g3 : (a.nd != nd) = false := g
 have g3 := bne_eq_false_iff_eq.1 g3
 intro _; refine ⟨fun g => ?_, fun g => ?_⟩
 ·have g4 : (xn != nd) = true := g
  have g4 := bne_iff_ne.1 g4
  intro _
  exact no' (fun h => g4 h.2.2.2.2)
 have g4 : (xn != nd) = false := g
 have g4 := bne_eq_false_iff_eq.1 g4
 have hv := hW.v
 have hJ : Jok nd mo ps a xn w k hh := ⟨hW, g1, g2, g3, g4⟩
 have hLn : Ln_ hh := g2.2.2.elim (fun q => q.2) (fun q => by rw [q.2]; exact ⟨by decide, by decide⟩)
 intro _
 refine call_pure [(0, some 5), (1, some 6), (2, some 7), (3, some 8)] (prom_ok (vals ps) (gx ps 0 0) w hv.1.1 hv.1.2 hv.2 g2.2.1) rfl rfl rfl ?_ ?_ ?_
 ·and_intros<;>try first|exact trivial|exact rfl
 ·and_intros<;>try first|exact trivial|exact rfl
 intro v hv _
 subst hv
 intro _
 refine call_mut [(0, some 9)] (judge_ok a xn w k hh (pr (vals ps) (gx ps 0 0) w) mo g1 hLn (hW.pr w)) rfl rfl rfl rfl ?_ ?_ ?_
 ·and_intros<;>try first|exact trivial|exact rfl
 ·and_intros<;>try first|exact trivial|exact rfl
 intro v h' ⟨hv, hd⟩
 subst hv
 refine ⟨_, mutB hd, rfl, ?_⟩
 intro _; refine ⟨fun g => ?_, fun g => ?_⟩
 ·have gk : (k == 1) = true := g
  have gk : k = 1 := by simpa using gk
  intro _; refine ⟨by kernel_rfl, ?_⟩
  intro _
  exact ⟨_, fun _ _ _ q => q, .inl ⟨hJ, by rw [show decide (k = 1 ∧ hh > pr (vals ps) (gx ps 0 0) w) = decide (hh > pr (vals ps) (gx ps 0 0) w) from by simp [gk]]⟩, rfl⟩
 have gk : (k == 1) = false := g
 have gk : k ≠ 1 := by simpa using gk
 intro _; refine ⟨by kernel_rfl, ?_⟩
 intro _
 exact ⟨.tup [AV_ (jd k hh (pr (vals ps) (gx ps 0 0) w) mo a), .int .i64 (pr (vals ps) (gx ps 0 0) w), .test (decide (k = 1 ∧ hh > pr (vals ps) (gx ps 0 0) w)), .int .i64 0], fun n ν a q => by rw [show decide (k = 1 ∧ hh > pr (vals ps) (gx ps 0 0) w) = false from by simp [gk]]; simpa only [Cv, Cvs] using q, .inl ⟨hJ, rfl⟩, rfl⟩
abbrev PE : Rws := [pt 200 300 0 100 1, pt 300 401 0 50 1]
abbrev VE : List Int := List.replicate 100 100 ++ List.replicate 101 50
theorem allCE : AllC VE := by decide +kernel
theorem qe1 : QF (VE.take 100) 0 100 1 := qf_of (by decide +kernel) (by decide +kernel) (by decide) (by decide +kernel) (by decide +kernel) (fun e h1 h2 => by omega) (by decide +kernel) (by decide +kernel)
theorem qe2 : QF ((VE.drop 100).take 101) 0 50 1 := qf_of (by decide +kernel) (by decide +kernel) (by decide) (by decide +kernel) (by decide +kernel) (fun e h1 h2 => by omega) (by decide +kernel) (by decide +kernel)
theorem nofe : ¬ Fx (VE.take (100 + 1)) := fun ⟨a, b, d, hq, hf⟩ => by
 have h0 := hf 0 (by decide +kernel)
 have h1 := hf 99 (by decide +kernel)
 have h2 := hf 100 (by decide +kernel)
 have s0 := fl_spec (a * ((0 : Nat) : Int) + b) d hq.1.1
 have s1 := fl_spec (a * ((99 : Nat) : Int) + b) d hq.1.1
 have s2 := fl_spec (a * ((100 : Nat) : Int) + b) d hq.1.1
 have e0 : raw (VE.take (100 + 1)) 0 = 100 := by decide +kernel
 have e1 : raw (VE.take (100 + 1)) 99 = 100 := by decide +kernel
 have e2 : raw (VE.take (100 + 1)) 100 = 50 := by decide +kernel
 unfold qv at h0 h1 h2
 rw [h0, e0] at s0
 rw [h1, e1] at s1
 rw [h2, e2] at s2
 omega
theorem SE : Spl 200 VE PE := Spl.cons (n := 100) (a := 0) (b := 100) (d := 1) (ps := [pt 300 401 0 50 1]) ⟨⟨by decide, by decide +kernel⟩, qe1, fun _ => nofe⟩ (Spl.cons (n := 101) (a := 0) (b := 50) (d := 1) (ps := []) ⟨⟨by decide, by decide +kernel⟩, qe2, fun h => absurd h (by decide +kernel)⟩ (by
  have e : (VE.drop 100).drop 101 = [] := by decide +kernel
  rw [e]; exact Spl.nil _))
theorem ME : Mok 200 VE := ⟨⟨by decide +kernel, by decide +kernel, allCE⟩, by decide, by decide +kernel⟩
theorem vE : vals PE = VE := (SE.vd ME).2.1
theorem WE : Wc 5 1 PE := ⟨⟨by decide, by decide⟩, ⟨by decide, by decide⟩, (SE.vd ME).1, by rw [vE]; decide +kernel⟩
theorem prE (w : Int) : pr (vals PE) (gx PE 0 0) w = pr VE 200 w := by rw [vE, (SE.vd ME).2.2]
theorem gE : gb PE := by decide
abbrev AK : List CK := [.int .i64, .int .i64, .int .i64, .int .i64]
def acc (mo : Int) (ps l : Rws) (a : Ac) : Nat → Ac
 | 0 => a
 | k + 1 => jd (gx l k 2) (gx l k 3) (pr (vals ps) (gx ps 0 0) (gx l k 1)) mo (acc mo ps l a k)
def hts (ps l : Rws) : Nat → List Int
 | 0 => []
 | k + 1 => hts ps l k ++ [pr (vals ps) (gx ps 0 0) (gx l k 1)]
theorem hts_len (ps l : Rws) : ∀ k, (hts ps l k).length = k
 | 0 => rfl
 | k + 1 => by simp [hts, hts_len ps l k]
theorem jd_aok {k hh p mo : Int} {a : Ac} (h : Aok a) (hX : Ln_ hh) (hp : Ln_ p) : Aok (jd k hh p mo a) ∧ (jd k hh p mo a).nd = a.nd := by
 unfold jd
 split
 ·exact ⟨h, rfl⟩
 ·obtain ⟨i1, ⟨c1, c2⟩, ⟨d1, d2⟩, l1, l2⟩ := h
  have h1 := hX.1; have h2 := hX.2; have p1 := hp.1; have p2 := hp.2
  refine ⟨⟨i1, ?_, ?_, ?_⟩, rfl⟩
  ·show Cn_ (if _ then _ else _)
   split
   ·exact ⟨Int.le_min.2 ⟨by omega, by decide⟩, Int.min_le_right _ _⟩
   ·exact ⟨c1, c2⟩
  ·show Cn_ (if _ then _ else _)
   split
   ·exact ⟨Int.le_min.2 ⟨by omega, by decide⟩, Int.min_le_right _ _⟩
   ·exact ⟨d1, d2⟩
  ·show -1000000 ≤ (if k = 1 ∧ hh - p ≠ a.la then hh - p else a.la) ∧ (if k = 1 ∧ hh - p ≠ a.la then hh - p else a.la) ≤ 1000000
   split
   ·exact ⟨by omega, by omega⟩
   ·exact ⟨l1, l2⟩
def Xk (nd : Int) (l : Rws) (k : Nat) : Prop := Xok (gx l k 0) (gx l k 1) (gx l k 2) (gx l k 3) ∧ gx l k 0 = nd
theorem Xok.ln {nd w k hh : Int} (h : Xok nd w k hh) : Ln_ hh := h.2.2.elim (fun q => q.2) (fun q => by rw [q.2]; exact ⟨by decide, by decide⟩)
theorem acc_aok {nd mo : Int} {ps l : Rws} (hW : Wc nd mo ps) {a : Ac} (ha : Aok a) : ∀ k, (∀ i, i < k → Xk nd l i) → Aok (acc mo ps l a k) ∧ (acc mo ps l a k).nd = a.nd
 | 0, _ => ⟨ha, rfl⟩
 | k + 1, h => by
  have ih := acc_aok hW ha k (fun i hi => h i (by omega))
  have := jd_aok (k := gx l k 2) (mo := mo) ih.1 (h k (by omega)).1.ln (hW.pr (gx l k 1))
  exact ⟨this.1, this.2.trans ih.2⟩
abbrev A0 (nd : Int) : Ac := ⟨nd, 0, 0, 0, false⟩
abbrev Z5 : V := .agg [.int .i64 0, .int .i64 0, .int .i64 0, .int .i64 0, .bool false]
abbrev DCA (ps l : Rws) : List (Nat × Ob) := [(0, .arr PK .rd (.recs ps)), (1, .arr AK .rd (.recs l))]
def Cok (nd mo : Int) (ps l : Rws) : Prop := Wc nd mo ps ∧ l.length ≤ 500 ∧ ∀ i, i < l.length → Xk nd l i
def CoR (nd mo : Int) (ps l : Rws) (v : V) (h' : H) : Prop :=
 (Cok nd mo ps l ∧ v = .tup [AV_ (acc mo ps l (A0 nd) l.length), .grw 2 l.length, .int .i64 0] ∧ h' = ⟨3, 2, [(2, .arr [.int .i64] .grow (.ints (hts ps l l.length)))]⟩) ∨ (¬ Cok nd mo ps l ∧ ∃ e : Int, ((e = 2 ∧ Wc nd mo ps ∧ 500 < l.length) ∨ (e = 1 ∧ ¬ (Wc nd mo ps ∧ 500 < l.length))) ∧ v = .tup [Z5, .nils, .int .i64 e] ∧ h' = ⟨2, 2, []⟩)
set_option maxHeartbeats 8000000 in
theorem course_ok (nd mo : Int) (ps l : Rws) (hb : gb ps) (hl : l.length ≤ 9223372036854775807) : SemF Try.prog 18 [CV nd mo ps 0, .slc 1 4 0 l.length] ⟨2, 2, DCA ps l⟩ (CoR nd mo ps l) := by
 refine SemF.ret ?_
 refine enter tt_ok Try.func18 (nt := 64) (cd := body Try.f18) rfl rfl rfl rfl ?_
 intro _
 refine call_new2 [(0, some 0)] (promises_ok nd mo ps hb) rfl rfl rfl rfl ?_ ?_ ?_
 ·and_intros<;>try first|exact trivial|exact rfl
 ·and_intros<;>try first|exact trivial|exact rfl
 intro v h' hv
 rcases hv with ⟨hW, rfl, rfl⟩ | ⟨hW, rfl, rfl⟩
 rotate_left
 ·refine ⟨[], 4, [], .tup [.nilf, .bool false], rfl, rfl, rfl, rfl, rfl, ?_, ?_, ?_⟩
  ·and_intros<;>try first|exact trivial|exact rfl
  ·and_intros<;>try first|exact trivial|exact rfl
  intro _
  refine ⟨[], .tup [Z5, .nils, .int .i64 1], ⟨2, 2, []⟩, rfl, rfl, rfl, rfl, ?_, ?_, .inr ⟨fun h => hW h.1, 1, .inr ⟨rfl, fun h => hW h.1⟩, rfl, rfl⟩⟩
  ·and_intros<;>try first|exact trivial|exact rfl
  ·and_intros<;>try first|exact trivial|exact rfl
 refine ⟨[(4, some 1), (5, some 2), (6, some 3), (7, some 4)], 8, HPat ps 4, .tup [.fn 41 [] [.ptr 5 0, .ptr 6 0, .ptr 7 0], .bool true], rfl, rfl, rfl, rfl, rfl, ?_, ?_, ?_⟩
 ·and_intros<;>try first|exact trivial|exact rfl
 ·and_intros<;>try first|exact trivial|exact rfl
 intro _; refine ⟨fun g => ?_, fun g => ?_⟩
 ·have g := of_decide_eq_true (show decide ((l.length : Int) > 500) = true from g)
  intro _
  refine ⟨[], .tup [Z5, .nils, .int .i64 2], ⟨2, 2, []⟩, rfl, rfl, rfl, rfl, ?_, ?_, .inr ⟨fun h => by have := h.2.1; omega, 2, .inl ⟨rfl, hW, by omega⟩, rfl, rfl⟩⟩
  ·and_intros<;>try first|exact trivial|exact rfl
  ·and_intros<;>try first|exact trivial|exact rfl
 have g500 := of_decide_eq_false (show decide ((l.length : Int) > 500) = false from g)
 have hw := hW.v
 have a0 : Aok (A0 nd) := ⟨hW.1, (by decide : Cn_ 0), (by decide : Cn_ 0), (by decide : (-1000000 : Int) ≤ 0), (by decide : (0 : Int) ≤ 1000000)⟩
 intro _
 refine loop2 tt_ok [10, 34] [8, 9] 10 (fun k : { k : Nat // k ≤ l.length ∧ ∀ i, i < k → Xk nd l i } => [(10, .grw 9 k.1), (34, .int .i64 (k.1 : Nat))]) (fun k => [(8, BK (acc mo ps l (A0 nd) k.1) mo), (9, .arr [.int .i64] .grow (.ints (hts ps l k.1)))]) (fun k => l.length - k.1) ⟨0, Nat.zero_le _, fun i h => by omega⟩ ?_
 intro _
 refine ⟨⟨th [(9, none)] 10, rfl, rfl, rfl, rfl, rfl, rfl, ?_, ?_⟩, ?_⟩
 ·and_intros<;>try first|exact trivial|exact rfl
 ·and_intros<;>try first|exact trivial|exact rfl
 intro ⟨k, hk, hm⟩
 have hk : k ≤ l.length := hk
 have hm : ∀ i, i < k → Xk nd l i := hm
 have hA := acc_aok (mo := mo) (ps := ps) hW a0 k hm
 have hl2 := hts_len ps l k
 intro _; refine ⟨fun g => ?_, fun g => ?_⟩
 rotate_left
 ·have g := of_decide_eq_false (show decide ((k : Int) < (l.length : Int)) = false from g)
  have e : k = l.length := by omega
  subst e
  intro _
  refine ⟨[(2, some 9)], .tup [AV_ (acc mo ps l (A0 nd) l.length), .grw 2 l.length, .int .i64 0], ⟨3, 2, [(2, .arr [.int .i64] .grow (.ints (hts ps l l.length)))]⟩, rfl, rfl, rfl, rfl, ?_, ?_, .inl ⟨⟨hW, by omega, hm⟩, rfl, rfl⟩⟩
  ·and_intros<;>try first|exact trivial|exact rfl
  ·and_intros<;>try first|exact trivial|exact rfl
 have g := of_decide_eq_true (show decide ((k : Int) < (l.length : Int)) = true from g)
 have z : 0 + ((k : Nat) : Int).toNat = k := by omega
 intro _; refine ⟨show 0 ≤ (k : Int) ∧ (k : Int) < (l.length : Int) by omega, ?_⟩
 intro _; refine ⟨show 0 + (k : Int).toNat < l.length by omega, ?_⟩
 intro _
 refine call_pure [] (ans_ok (gx l (0 + ((k : Nat) : Int).toNat) 0) (gx l (0 + ((k : Nat) : Int).toNat) 1) (gx l (0 + ((k : Nat) : Int).toNat) 2) (gx l (0 + ((k : Nat) : Int).toNat) 3)) rfl rfl rfl ?_ ?_ ?_
 ·and_intros<;>try first|exact trivial|exact rfl
 ·and_intros<;>try first|exact trivial|exact rfl
 intro v hv _
 subst hv
 intro _; refine ⟨fun g => ?_, fun g => ?_⟩
 ·have g1 : (!decide (Xok (gx l (0 + ((k : Nat) : Int).toNat) 0) (gx l (0 + ((k : Nat) : Int).toNat) 1) (gx l (0 + ((k : Nat) : Int).toNat) 2) (gx l (0 + ((k : Nat) : Int).toNat) 3))) = true := g
  rw [Bool.not_eq_true', z] at g1
  have g1 := of_decide_eq_false g1
  intro _
  refine ⟨[], .tup [Z5, .nils, .int .i64 1], ⟨2, 2, []⟩, rfl, rfl, rfl, rfl, ?_, ?_, .inr ⟨fun h => g1 (h.2.2 k (by omega)).1, 1, .inr ⟨rfl, fun q => by omega⟩, rfl, rfl⟩⟩
  ·and_intros<;>try first|exact trivial|exact rfl
  ·and_intros<;>try first|exact trivial|exact rfl
 have g1 : (!decide (Xok (gx l (0 + ((k : Nat) : Int).toNat) 0) (gx l (0 + ((k : Nat) : Int).toNat) 1) (gx l (0 + ((k : Nat) : Int).toNat) 2) (gx l (0 + ((k : Nat) : Int).toNat) 3))) = false := g
 rw [Bool.not_eq_false', z] at g1
 have g1 := of_decide_eq_true g1
 intro _; refine ⟨fun g => ?_, fun g => ?_⟩
 ·have g2 : (gx l (0 + ((k : Nat) : Int).toNat) 0 != nd) = true := g
  rw [z] at g2
  have g2 := bne_iff_ne.1 g2
  intro _
  refine ⟨[], .tup [Z5, .nils, .int .i64 1], ⟨2, 2, []⟩, rfl, rfl, rfl, rfl, ?_, ?_, .inr ⟨fun h => g2 (h.2.2 k (by omega)).2, 1, .inr ⟨rfl, fun q => by omega⟩, rfl, rfl⟩⟩
  ·and_intros<;>try first|exact trivial|exact rfl
  ·and_intros<;>try first|exact trivial|exact rfl
 have g2 : (gx l (0 + ((k : Nat) : Int).toNat) 0 != nd) = false := g
 rw [z] at g2
 have g2 := bne_eq_false_iff_eq.1 g2
 intro _
 refine call_pure [(0, some 4), (1, some 5), (2, some 6), (3, some 7)] (prom_ok (vals ps) (gx ps 0 0) (gx l (0 + ((k : Nat) : Int).toNat) 1) hw.1.1 hw.1.2 hw.2 (by rw [z]; exact g1.2.1)) rfl rfl rfl ?_ ?_ ?_
 ·and_intros<;>try first|exact trivial|exact rfl
 ·and_intros<;>try first|exact trivial|exact rfl
 intro v hv _
 subst hv
 intro _
 refine call_mut [(0, some 8)] (judge_ok (acc mo ps l (A0 nd) k) (gx l (0 + ((k : Nat) : Int).toNat) 0) (gx l (0 + ((k : Nat) : Int).toNat) 1) (gx l (0 + ((k : Nat) : Int).toNat) 2) (gx l (0 + ((k : Nat) : Int).toNat) 3) (pr (vals ps) (gx ps 0 0) (gx l (0 + ((k : Nat) : Int).toNat) 1)) mo hA.1 (by rw [z]; exact g1.ln) (hW.pr _)) rfl rfl rfl rfl ?_ ?_ ?_
 ·and_intros<;>try first|exact trivial|exact rfl
 ·and_intros<;>try first|exact trivial|exact rfl
 intro v h' ⟨hv, hd⟩
 subst hv
 refine ⟨_, mutB hd, rfl, ?_⟩
 intro _; refine ⟨rfl, ?_⟩
 intro _; refine ⟨fun g3 => by simp at g3, fun _ => ?_⟩
 refine ⟨⟨hl2.symm, show k + 1 ≤ 4611686018427387904 by omega, show (k + 1) * 8 ≤ 140737488355328 by omega⟩, ?_⟩
 refine ⟨⟨k + 1, by omega, fun i hi => ?_⟩, by show l.length - (k + 1) < l.length - k; omega, th [(9, some 12)] 10, rfl, rfl, rfl, rfl, rfl, rfl, ?_, ?_⟩
 ·by_cases e : i = k
  ·subst e; exact ⟨g1, g2⟩
  ·exact hm i (by omega)
 ·and_intros<;>try first|exact trivial|exact rfl
  exact (wrap_nat k (by omega)).symm
 ·and_intros<;>try first|exact trivial|exact rfl
  all_goals first | (simp only [z]; rfl) | (rw [z]; rfl)
theorem rfew_ok (nd mo : Int) (ps : Rws) (hl : ps.length ≤ 9223372036854775807) : SemF Try.prog 11 [CV nd mo ps 0] ⟨1, 1, DP ps⟩ (fun v _ => (∃ b, v = .test b) ∧ nameless v = true) := by
 refine enter tt_ok Try.func11 (nt := 6) (cd := body Try.f11) rfl rfl rfl rfl ?_
 intro _
 refine call_pure [(0, some 0)] (few_ok ps hl) rfl rfl rfl ?_ ?_ ?_
 ·and_intros<;>try first|exact trivial|exact rfl
 ·and_intros<;>try first|exact trivial|exact rfl
 intro v hv _
 obtain ⟨b, rfl⟩ := hv
 intro _
 exact ⟨⟨b, rfl⟩, rfl⟩
theorem example_ok : SemF Try.prog 23 [] ⟨0, 0, []⟩ (fun v h' => v = .agg [.int .i64 5, .int .i64 1, .grw 0 2] ∧ h' = ⟨1, 0, [(0, .arr PK .own (.recs PE))]⟩) := by
 refine SemF.ret ?_
 refine enter tt_ok Try.func23 (nt := 7) (cd := body Try.f23) rfl rfl rfl rfl ?_
 intro _
 refine ⟨[(0, some 1)], .agg [.int .i64 5, .int .i64 1, .grw 0 2], ⟨1, 0, [(0, .arr PK .own (.recs PE))]⟩, rfl, rfl, rfl, rfl, ?_, ?_, rfl, rfl⟩
 ·and_intros<;>try first|exact trivial|exact rfl
 ·and_intros<;>try first|exact trivial|exact rfl
theorem answer_ok (w hh : Int) : SemF Try.prog 24 [.int .i64 w, .int .i64 hh] ⟨0, 0, []⟩ (fun v _ => v = XV 5 w 1 hh ∧ nameless v = true) := by
 refine enter tt_ok Try.func24 (nt := 8) (cd := body Try.f24) rfl rfl rfl rfl ?_
 intro _
 exact ⟨rfl, rfl⟩
abbrev L3 : Rws := [[.n 5, .n 250, .n 1, .n 100], [.n 5, .n 250, .n 1, .n 120], [.n 5, .n 250, .n 1, .n 120]]
theorem p250 : pr (vals PE) (gx PE 0 0) 250 = 100 := by rw [prE]; decide +kernel
theorem accE : acc 1 PE L3 (A0 5) 3 = ⟨5, 2, 1, 20, false⟩ := by
 show jd 1 120 (pr (vals PE) (gx PE 0 0) 250) 1 (jd 1 120 (pr (vals PE) (gx PE 0 0) 250) 1 (jd 1 100 (pr (vals PE) (gx PE 0 0) 250) 1 (A0 5))) = _
 rw [p250]; rfl
theorem htsE : hts PE L3 3 = [100, 100, 100] := by
 show (([] ++ [pr (vals PE) (gx PE 0 0) 250]) ++ [pr (vals PE) (gx PE 0 0) 250]) ++ [pr (vals PE) (gx PE 0 0) 250] = _
 rw [p250]; rfl
instance (nd : Int) (l : Rws) (k : Nat) : Decidable (Xk nd l k) := inferInstanceAs (Decidable (_ ∧ _))
theorem courseE : SemF Try.prog 18 [CV 5 1 PE 0, .slc 1 4 0 3] ⟨2, 2, DCA PE L3⟩ (fun v h' => v = .tup [AV_ ⟨5, 2, 1, 20, false⟩, .grw 2 3, .int .i64 0] ∧ h' = ⟨3, 2, [(2, .arr [.int .i64] .grow (.ints [100, 100, 100]))]⟩) := by
 refine (course_ok 5 1 PE L3 gE (by decide)).mono fun v h' hv => ?_
 have hC : Cok 5 1 PE L3 := ⟨WE, by decide, by decide +kernel⟩
 rcases hv with ⟨_, rfl, rfl⟩ | ⟨hn, _⟩
 ·have e1 := accE
  have e2 := htsE
  refine ⟨?_, ?_⟩
  ·show V.tup [AV_ (acc 1 PE L3 (A0 5) 3), .grw 2 3, .int .i64 0] = _
   rw [e1]
  ·show (⟨3, 2, [(2, .arr [.int .i64] .grow (.ints (hts PE L3 3)))]⟩ : H) = _
   rw [e2]
 ·exact absurd hC hn
theorem judgeE (a b : Ac) (hh : Int) (c : Bool) (ha : Aok a) (hx : Xok 5 250 1 hh) (hn : a.nd = 5) (hb : jd 1 hh 100 1 a = b) (hc : decide (hh > 100) = c) : SemF Try.prog 16 [CV 5 1 PE 0, AV_ a, XV 5 250 1 hh] ⟨1, 1, DP PE⟩ (fun v _ => v = .tup [AV_ b, .int .i64 100, .test c, .int .i64 0] ∧ nameless v = true) := by
 refine (judge2_ok 5 1 PE a 5 250 1 hh gE).mono fun v h' hv => ?_
 obtain ⟨hv, hnl⟩ := hv
 refine ⟨?_, hnl⟩
 rcases hv with ⟨_, rfl⟩ | ⟨h, _⟩
 ·rw [p250, hb]
  have hc' : decide ((1 : Int) = 1 ∧ hh > 100) = c := by rw [← hc]; simp
  rw [hc']
 ·exact absurd ⟨WE, ha, hx, hn, rfl⟩ h
theorem judgeN : SemF Try.prog 16 [CV 5 1 PE 0, AV_ ⟨6, 0, 0, 0, false⟩, XV 5 250 1 90] ⟨1, 1, DP PE⟩ (fun v _ => v = .tup [Z5, .int .i64 0, .bool false, .int .i64 1] ∧ nameless v = true) := by
 refine (judge2_ok 5 1 PE ⟨6, 0, 0, 0, false⟩ 5 250 1 90 gE).mono fun v h' hv => ?_
 obtain ⟨hv, hnl⟩ := hv
 refine ⟨?_, hnl⟩
 rcases hv with ⟨h, _⟩ | ⟨_, rfl⟩
 ·exact absurd h.2.2.2.1 (by decide)
 ·rfl
theorem validE : SemF Try.prog 14 [CV 5 1 PE 0] ⟨1, 1, DP PE⟩ (fun v _ => v = .bool true ∧ nameless v = true) := by
 refine (cvalid_ok 5 1 PE gE).mono fun v h' hv => ?_
 obtain ⟨⟨_, rfl⟩ | ⟨h, _⟩, hnl⟩ := hv
 ·exact ⟨rfl, rfl⟩
 ·exact absurd WE h
theorem promisedE (w p : Int) (hw : Ln_ w) (hp : pr VE 200 w = p) : SemF Try.prog 12 [CV 5 1 PE 0, .int .i64 w] ⟨1, 1, DP PE⟩ (fun v _ => v = .tup [.int .i64 p, .int .i64 0] ∧ nameless v = true) := by
 refine (promised_ok 5 1 PE w gE).mono fun v h' hv => ?_
 obtain ⟨hv, hnl⟩ := hv
 refine ⟨?_, hnl⟩
 rcases hv with ⟨_, _, rfl⟩ | ⟨h, _⟩
 ·rw [prE, hp]
 ·exact absurd ⟨WE, hw⟩ h
set_option maxHeartbeats 8000000 in
theorem hd_ok : SemF Try.prog 10 [] ⟨0, 0, []⟩ (fun v _ => v = .bool true ∧ nameless v = true) := by
 refine semF_seen ?_
 refine enter tt_ok Try.func10 (nt := 134) (cd := body Try.f10) rfl rfl rfl rfl ?_
 intro _
 refine call_new [] example_ok rfl rfl rfl rfl ?_ ?_ ?_
 ·and_intros<;>try first|exact trivial|exact rfl
 ·and_intros<;>try first|exact trivial|exact rfl
 intro v h' hv
 obtain ⟨rfl, rfl⟩ := hv
 refine ⟨[(0, some 0)], 1, [(0, .arr PK .own (.recs PE))], .agg [.int .i64 5, .int .i64 1, .grw 0 2], rfl, rfl, rfl, rfl, rfl, ?_, ?_, ?_⟩
 ·and_intros<;>try first|exact trivial|exact rfl
 ·and_intros<;>try first|exact trivial|exact rfl
 intro _
 refine call_pure [] (answer_ok 250 100) rfl rfl rfl ?_ ?_ ?_
 ·and_intros<;>try first|exact trivial|exact rfl
 ·and_intros<;>try first|exact trivial|exact rfl
 intro v hv _
 subst hv
 intro _
 refine call_pure [] (answer_ok 250 120) rfl rfl rfl ?_ ?_ ?_
 ·and_intros<;>try first|exact trivial|exact rfl
 ·and_intros<;>try first|exact trivial|exact rfl
 intro v hv _
 subst hv
 intro _
 refine call_pure [] (answer_ok 250 120) rfl rfl rfl ?_ ?_ ?_
 ·and_intros<;>try first|exact trivial|exact rfl
 ·and_intros<;>try first|exact trivial|exact rfl
 intro v hv _
 subst hv
 intro _
 refine call_new [(0, some 0), (1, some 1)] courseE rfl rfl rfl rfl ?_ ?_ ?_
 ·and_intros<;>try first|exact trivial|exact rfl
 ·and_intros<;>try first|exact trivial|exact rfl
 intro v h' hv
 obtain ⟨rfl, rfl⟩ := hv
 refine ⟨[(2, some 2)], 3, [(2, .arr [.int .i64] .grow (.ints [100, 100, 100]))], .tup [AV_ ⟨5, 2, 1, 20, false⟩, .grw 2 3, .int .i64 0], rfl, rfl, rfl, rfl, rfl, ?_, ?_, ?_⟩
 ·and_intros<;>try first|exact trivial|exact rfl
 ·and_intros<;>try first|exact trivial|exact rfl
 intro _; refine Or.inl ?_
 intro _
 refine call_new [] example_ok rfl rfl rfl rfl ?_ ?_ ?_
 ·and_intros<;>try first|exact trivial|exact rfl
 ·and_intros<;>try first|exact trivial|exact rfl
 intro v h' hv
 obtain ⟨rfl, rfl⟩ := hv
 refine ⟨[(4, some 0)], 5, [(4, .arr PK .own (.recs PE))], .agg [.int .i64 5, .int .i64 1, .grw 4 2], rfl, rfl, rfl, rfl, rfl, ?_, ?_, ?_⟩
 ·and_intros<;>try first|exact trivial|exact rfl
 ·and_intros<;>try first|exact trivial|exact rfl
 intro _; refine Or.inl ?_
 intro _
 refine call_pure [] (answer_ok 250 90) rfl rfl rfl ?_ ?_ ?_
 ·and_intros<;>try first|exact trivial|exact rfl
 ·and_intros<;>try first|exact trivial|exact rfl
 intro v hv _
 subst hv
 intro _; refine Or.inl ?_
 intro _
 refine call_pure [(0, some 4)] (judgeE ⟨5, 2, 1, 20, false⟩ ⟨5, 3, 2, -10, true⟩ 90 false (by decide) (by decide) rfl rfl (by decide)) rfl rfl rfl ?_ ?_ ?_
 ·and_intros<;>try first|exact trivial|exact rfl
 ·and_intros<;>try first|exact trivial|exact rfl
 intro v hv _
 subst hv
 intro _; refine ⟨by kernel_rfl, ?_⟩
 intro _
 refine call_new [] example_ok rfl rfl rfl rfl ?_ ?_ ?_
 ·and_intros<;>try first|exact trivial|exact rfl
 ·and_intros<;>try first|exact trivial|exact rfl
 intro v h' hv
 obtain ⟨rfl, rfl⟩ := hv
 refine ⟨[(6, some 0)], 7, [(6, .arr PK .own (.recs PE))], .agg [.int .i64 5, .int .i64 1, .grw 6 2], rfl, rfl, rfl, rfl, rfl, ?_, ?_, ?_⟩
 ·and_intros<;>try first|exact trivial|exact rfl
 ·and_intros<;>try first|exact trivial|exact rfl
 intro _
 refine call_pure [] (answer_ok 250 120) rfl rfl rfl ?_ ?_ ?_
 ·and_intros<;>try first|exact trivial|exact rfl
 ·and_intros<;>try first|exact trivial|exact rfl
 intro v hv _
 subst hv
 intro _
 refine call_pure [(0, some 6)] (judgeE ⟨5, 0, 0, 0, false⟩ ⟨5, 1, 1, 20, false⟩ 120 true (by decide) (by decide) rfl rfl (by decide)) rfl rfl rfl ?_ ?_ ?_
 ·and_intros<;>try first|exact trivial|exact rfl
 ·and_intros<;>try first|exact trivial|exact rfl
 intro v hv _
 subst hv
 intro _
 refine call_new [] example_ok rfl rfl rfl rfl ?_ ?_ ?_
 ·and_intros<;>try first|exact trivial|exact rfl
 ·and_intros<;>try first|exact trivial|exact rfl
 intro v h' hv
 obtain ⟨rfl, rfl⟩ := hv
 refine ⟨[(8, some 0)], 9, [(8, .arr PK .own (.recs PE))], .agg [.int .i64 5, .int .i64 1, .grw 8 2], rfl, rfl, rfl, rfl, rfl, ?_, ?_, ?_⟩
 ·and_intros<;>try first|exact trivial|exact rfl
 ·and_intros<;>try first|exact trivial|exact rfl
 intro _
 refine call_pure [(0, some 8)] (promisedE 180 100 (by decide) (by decide +kernel)) rfl rfl rfl ?_ ?_ ?_
 ·and_intros<;>try first|exact trivial|exact rfl
 ·and_intros<;>try first|exact trivial|exact rfl
 intro v hv _
 subst hv
 intro _
 refine call_new [] example_ok rfl rfl rfl rfl ?_ ?_ ?_
 ·and_intros<;>try first|exact trivial|exact rfl
 ·and_intros<;>try first|exact trivial|exact rfl
 intro v h' hv
 obtain ⟨rfl, rfl⟩ := hv
 refine ⟨[(9, some 0)], 10, [(9, .arr PK .own (.recs PE))], .agg [.int .i64 5, .int .i64 1, .grw 9 2], rfl, rfl, rfl, rfl, rfl, ?_, ?_, ?_⟩
 ·and_intros<;>try first|exact trivial|exact rfl
 ·and_intros<;>try first|exact trivial|exact rfl
 intro _
 refine call_pure [(0, some 9)] (promisedE 1000 50 (by decide) (by decide +kernel)) rfl rfl rfl ?_ ?_ ?_
 ·and_intros<;>try first|exact trivial|exact rfl
 ·and_intros<;>try first|exact trivial|exact rfl
 intro v hv _
 subst hv
 intro _
 refine call_new [] example_ok rfl rfl rfl rfl ?_ ?_ ?_
 ·and_intros<;>try first|exact trivial|exact rfl
 ·and_intros<;>try first|exact trivial|exact rfl
 intro v h' hv
 obtain ⟨rfl, rfl⟩ := hv
 refine ⟨[(10, some 0)], 11, [(10, .arr PK .own (.recs PE))], .agg [.int .i64 5, .int .i64 1, .grw 10 2], rfl, rfl, rfl, rfl, rfl, ?_, ?_, ?_⟩
 ·and_intros<;>try first|exact trivial|exact rfl
 ·and_intros<;>try first|exact trivial|exact rfl
 intro _
 refine call_pure [] (answer_ok 250 90) rfl rfl rfl ?_ ?_ ?_
 ·and_intros<;>try first|exact trivial|exact rfl
 ·and_intros<;>try first|exact trivial|exact rfl
 intro v hv _
 subst hv
 intro _
 refine call_pure [(0, some 10)] (judgeN) rfl rfl rfl ?_ ?_ ?_
 ·and_intros<;>try first|exact trivial|exact rfl
 ·and_intros<;>try first|exact trivial|exact rfl
 intro v hv _
 subst hv
 intro _; refine ⟨fun g => ?_, fun g => ?_⟩
 rotate_left
 ·exact absurd (show ((0 : Int) == 0) = false from g) (by decide)
 intro _; refine ⟨fun g => ?_, fun g => ?_⟩
 rotate_left
 ·exact absurd (show ((0 : Int) == 0) = false from g) (by decide)
 intro _; refine ⟨fun g => ?_, fun g => ?_⟩
 rotate_left
 ·exact absurd (show ((0 : Int) == 0) = false from g) (by decide)
 intro _; refine ⟨fun g => ?_, fun g => ?_⟩
 rotate_left
 ·exact absurd (show ((0 : Int) == 0) = false from g) (by decide)
 intro _; refine ⟨fun g => ?_, fun g => ?_⟩
 rotate_left
 ·exact absurd (show ((0 : Int) == 0) = false from g) (by decide)
 intro _; refine ⟨fun g => ?_, fun g => ?_⟩
 rotate_left
 ·exact absurd (show ((1 : Int) == 1) = false from g) (by decide)
 intro _
 refine call_new [] example_ok rfl rfl rfl rfl ?_ ?_ ?_
 ·and_intros<;>try first|exact trivial|exact rfl
 ·and_intros<;>try first|exact trivial|exact rfl
 intro v h' hv
 obtain ⟨rfl, rfl⟩ := hv
 refine ⟨[(12, some 0)], 13, [(12, .arr PK .own (.recs PE))], .agg [.int .i64 5, .int .i64 1, .grw 12 2], rfl, rfl, rfl, rfl, rfl, ?_, ?_, ?_⟩
 ·and_intros<;>try first|exact trivial|exact rfl
 ·and_intros<;>try first|exact trivial|exact rfl
 intro _
 refine call_pure [(0, some 12)] (validE) rfl rfl rfl ?_ ?_ ?_
 ·and_intros<;>try first|exact trivial|exact rfl
 ·and_intros<;>try first|exact trivial|exact rfl
 intro v hv _
 subst hv
 intro _; refine ⟨fun g => ?_, fun g => ?_⟩
 rotate_left
 ·exact absurd g (by decide)
 intro _
 refine call_pure [(0, some 2), (1, some 13)] (sameInts_ok [100, 100, 100] [100, 100, 100] (by decide) (by decide)) rfl rfl rfl ?_ ?_ ?_
 ·and_intros<;>try first|exact trivial|exact rfl
 ·and_intros<;>try first|exact trivial|exact rfl
 intro v hv _
 subst hv
 intro _; refine ⟨fun g => ?_, fun g => ?_⟩
 rotate_left
 ·exact absurd g (by decide)
 intro _; refine ⟨fun g => ?_, fun g => ?_⟩
 rotate_left
 ·exact absurd g (by decide)
 intro _; refine ⟨fun g => ?_, fun g => ?_⟩
 rotate_left
 ·exact absurd g (by decide)
 intro _; refine ⟨fun g => ?_, fun g => ?_⟩
 rotate_left
 ·exact absurd g (by decide)
 intro _; refine ⟨fun g => ?_, fun g => ?_⟩
 rotate_left
 ·exact absurd g (by decide)
 intro _; refine ⟨fun g => ?_, fun g => ?_⟩
 rotate_left
 ·exact absurd g (by decide)
 intro _; refine ⟨fun g => ?_, fun g => ?_⟩
 rotate_left
 ·exact absurd g (by decide)
 intro _
 exact ⟨.bool true, fun n ν a h => h, rfl, rfl⟩
end Go.Proofs.Ytbcjncoajilijaa.con
