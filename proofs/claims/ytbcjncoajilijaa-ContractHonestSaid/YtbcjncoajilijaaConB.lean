/-
 Contracts of packages quot, curve and contract. No conditions beyond those that its theorems name.
-/
import Derived.Test.YtbcjncoajilijaaRows
import Derived.Test.YtbcjncoajilijaaVwOpen2
import Derived.Test.YtbcjncoajilijaaVwRules7
import Derived.WalkKit
import Derived.ProofKit
import Derived.OpenShut
import Derived.Carry
import Derived.Test.YtbcjncoajilijaaConA
namespace Go.Proofs.Ytbcjncoajilijaa.con
open Go.ChangeShapes Go.WideShapes Go.ChangeAt Go.RowKit
open Go.Vm (Facts Val Sound)
open Go.Vm2
set_option linter.unusedVariables false
set_option linter.unusedSectionVars false
set_option maxRecDepth 100000
theorem same_ok (a b : Rws) (n m : Nat) (hn : n≤a.length) (hm : m≤b.length) (ha : a.length≤9223372036854775807) (hb : b.length≤9223372036854775807) : SemF Try.prog 53 [.slc 0 5 0 n,.slc 1 5 0 m] ⟨2,2,DP2 a b⟩ (fun v _=>v = .test (decide (NI (a.take n) = NI (b.take m)))∧nameless v = true) := by
 refine SemF.test ?_
 refine enter tt_ok Try.func53 (nt := 26) (cd := body Try.f53) rfl rfl rfl rfl ?_
 have la : (a.take n).length = n := by simp;omega
 have lb : (b.take m).length = m := by simp;omega
 intro _;refine ⟨fun g=>?_,fun g=>?_⟩
 ·have g : ((n : Int) != (m : Int)) = true := g
  have g := bne_iff_ne.1 g
  intro _
  exact ⟨false,.inl rfl,by rw [decide_eq_false (fun h=>by have := NI_len h;omega)],rfl⟩
 have g : ((n : Int) != (m : Int)) = false := g
 have e : n = m := by
  have := bne_eq_false_iff_eq.1 g
  omega
 subst e
 intro _
 refine loop2 tt_ok [5] [] 2 (fun k : { k : Nat // k≤n∧∀ i,i < k→gx a i 0 = gx b i 0∧gx a i 1 = gx b i 1∧gx a i 2 = gx b i 2∧gx a i 3 = gx b i 3∧gx a i 4 = gx b i 4 }=>[(5,.int .i64 (k.1 : Nat))]) (fun _=>[]) (fun k=>n - k.1) ⟨0,Nat.zero_le _,fun i h=>by omega⟩ ?_
 intro _
 refine ⟨⟨th [] 2,rfl,rfl,rfl,rfl,rfl,rfl,?_,?_⟩,?_⟩
 ·and_intros<;>try first|exact trivial|exact rfl
 ·and_intros<;>try first|exact trivial|exact rfl
 intro ⟨k,hk,hm'⟩
 have hk : k≤n := hk
 have gt : ∀ (l : Rws) i j,i < n→gx (l.take n) i j = gx l i j := fun l i j hi=>by
  have e : (l.take n).getD i [] = l.getD i [] := by rw [List.getD_eq_getElem?_getD,List.getD_eq_getElem?_getD,List.getElem?_take_of_lt hi]
  unfold gx;rw [e]
 intro _;refine ⟨fun g=>?_,fun g=>?_⟩
 rotate_left
 ·have g := of_decide_eq_false (show decide ((k : Int) < (n : Int)) = false from g)
  have e : k = n := by omega
  subst e
  intro _
  refine ⟨true,.inl rfl,?_,rfl⟩
  rw [decide_eq_true ((NI_eq (by rw [la,lb])).2 (fun i hi=>by rw [la] at hi;rw [gt a i 0 hi,gt a i 1 hi,gt a i 2 hi,gt a i 3 hi,gt a i 4 hi,gt b i 0 hi,gt b i 1 hi,gt b i 2 hi,gt b i 3 hi,gt b i 4 hi];exact hm' i hi))]
 have g := of_decide_eq_true (show decide ((k : Int) < (n : Int)) = true from g)
 have z : 0 + ((k : Nat) : Int).toNat = k := by omega
 intro _;refine ⟨show 0≤(k : Int)∧(k : Int) < (n : Int) by omega,?_⟩
 intro _;refine ⟨show 0 + (k : Int).toNat < a.length by omega,?_⟩
 intro _;refine ⟨show 0≤(k : Int)∧(k : Int) < (n : Int) by omega,?_⟩
 intro _;refine ⟨show 0 + (k : Int).toNat < b.length by omega,?_⟩
 intro _;refine ⟨by kernel_rfl,?_⟩
 intro _;refine ⟨fun g=>?_,fun g=>?_⟩
 ·have g2 : (!(gx a (0 + ((k : Nat) : Int).toNat) 0 == gx b (0 + ((k : Nat) : Int).toNat) 0 && (gx a (0 + ((k : Nat) : Int).toNat) 1 == gx b (0 + ((k : Nat) : Int).toNat) 1 && (gx a (0 + ((k : Nat) : Int).toNat) 2 == gx b (0 + ((k : Nat) : Int).toNat) 2 && (gx a (0 + ((k : Nat) : Int).toNat) 3 == gx b (0 + ((k : Nat) : Int).toNat) 3 && gx a (0 + ((k : Nat) : Int).toNat) 4 == gx b (0 + ((k : Nat) : Int).toNat) 4))))) = true := g
  rw [z] at g2
  intro _
  refine ⟨false,.inl rfl,?_,rfl⟩
  rw [decide_eq_false (fun h=>by
   have h := (NI_eq (by rw [la,lb])).1 h k (by omega)
   rw [gt a k 0 (by omega),gt a k 1 (by omega),gt a k 2 (by omega),gt a k 3 (by omega),gt a k 4 (by omega),gt b k 0 (by omega),gt b k 1 (by omega),gt b k 2 (by omega),gt b k 3 (by omega),gt b k 4 (by omega)] at h
   simp only [h.1,h.2.1,h.2.2.1,h.2.2.2.1,h.2.2.2.2,beq_self_eq_true,Bool.and_self,Bool.not_true] at g2
   cases g2)]
 have g2 : (!(gx a (0 + ((k : Nat) : Int).toNat) 0 == gx b (0 + ((k : Nat) : Int).toNat) 0 && (gx a (0 + ((k : Nat) : Int).toNat) 1 == gx b (0 + ((k : Nat) : Int).toNat) 1 && (gx a (0 + ((k : Nat) : Int).toNat) 2 == gx b (0 + ((k : Nat) : Int).toNat) 2 && (gx a (0 + ((k : Nat) : Int).toNat) 3 == gx b (0 + ((k : Nat) : Int).toNat) 3 && gx a (0 + ((k : Nat) : Int).toNat) 4 == gx b (0 + ((k : Nat) : Int).toNat) 4))))) = false := g
 rw [z] at g2
 simp only [Bool.not_eq_false',Bool.and_eq_true,beq_iff_eq] at g2
 refine ⟨⟨k + 1,by omega,fun i hi=>?_⟩,by show n - (k + 1) < n - k;omega,th [] 2,rfl,rfl,rfl,rfl,rfl,rfl,?_,?_⟩
 ·by_cases e : i = k
  ·subst e;exact g2
  ·exact hm' i (by omega)
 ·and_intros<;>try first|exact trivial|exact rfl
  exact (wrap_nat k (by omega)).symm
 ·and_intros<;>try first|exact trivial|exact rfl
def Vls (l : List Int) : Prop := AllC l∧1≤l.length∧l.length≤4000
instance decVls (l : List Int) : Decidable (Vls l) := inferInstanceAs (Decidable (_∧_))
theorem vals_ok (l : List Int) (hl : l.length≤9223372036854775807) : SemF Try.prog 71 [.slc 0 1 0 l.length] ⟨1,1,DV l⟩ (fun v _=>v = .test (decide (Vls l))∧nameless v = true) := by
 refine SemF.test ?_
 refine enter tt_ok Try.func71 (nt := 24) (cd := body Try.f71) rfl rfl rfl rfl ?_
 intro _
 refine loop2 tt_ok [3] [] 1 (fun k : { k : Nat // k≤l.length∧∀ i,i < k→Cd (raw l i) }=>[(3,.int .i64 (k.1 : Nat))]) (fun _=>[]) (fun k=>l.length - k.1) ⟨0,by omega,fun i h=>by omega⟩ ?_
 intro _
 refine ⟨⟨th [] 1,rfl,rfl,rfl,rfl,rfl,rfl,?_,?_⟩,?_⟩
 ·and_intros<;>try first|exact trivial|exact rfl
 ·and_intros<;>try first|exact trivial|exact rfl
 intro ⟨k,hk,hm⟩
 intro _;refine ⟨fun g=>?_,fun g=>?_⟩
 rotate_left
 ·have g := of_decide_eq_false (show decide ((k : Int) < (l.length : Int)) = false from g)
  have : k = l.length := by omega
  subst this
  intro _;refine ⟨fun g=>?_,fun g=>?_⟩
  ·have g1 := of_decide_eq_true (show decide ((l.length : Int) ≥ 1) = true from g)
   intro _
   refine ⟨_,.inr rfl,?_,rfl⟩
   have : decide (Vls l) = decide ((l.length : Int)≤4000) := by
    by_cases e : (l.length : Int)≤4000
    ·rw [decide_eq_true e,decide_eq_true (show Vls l from ⟨hm,by omega,by omega⟩)]
    ·rw [decide_eq_false e,decide_eq_false (fun h : Vls l=>by have := h.2.2;omega)]
   rw [this]
  ·have g1 := of_decide_eq_false (show decide ((l.length : Int) ≥ 1) = false from g)
   intro _
   exact ⟨false,.inl rfl,by rw [decide_eq_false (fun h : Vls l=>by have := h.2.1;omega)],rfl⟩
 have g := of_decide_eq_true (show decide ((k : Int) < (l.length : Int)) = true from g)
 intro _;refine ⟨show 0≤(k : Int)∧(k : Int) < (l.length : Int) by omega,?_⟩
 intro _;refine ⟨show 0 + (k : Int).toNat < l.length by omega,?_⟩
 intro _
 refine rcoord_test _ _ _ ?_
 have ev : l.getD (0 + ((k : Nat) : Int).toNat) 0 = raw l k := by rw [Nat.zero_add];rfl
 intro _;refine ⟨fun g=>?_,fun g=>?_⟩
 ·have g2 : (!decide (Cd (l.getD (0 + ((k : Nat) : Int).toNat) 0))) = true := g
  rw [Bool.not_eq_true',ev] at g2
  have g2 := of_decide_eq_false g2
  intro _
  exact ⟨false,.inl rfl,by rw [decide_eq_false (fun h : Vls l=>g2 (h.1 k (by omega)))],rfl⟩
 have g2 : (!decide (Cd (l.getD (0 + ((k : Nat) : Int).toNat) 0))) = false := g
 rw [Bool.not_eq_false',ev] at g2
 have g2 := of_decide_eq_true g2
 refine ⟨⟨k + 1,by omega,fun i hi=>?_⟩,by show l.length - (k + 1) < l.length - k;omega,th [] 1,rfl,rfl,rfl,rfl,rfl,rfl,?_,?_⟩
 ·by_cases e : i = k
  ·subst e;exact g2
  ·exact hm i (by omega)
 ·and_intros<;>try first|exact trivial|exact rfl
  show ((k + 1 : Nat) : Int) = IntKind.i64.wrap ((k : Int) + 1)
  exact (wrap_nat k (by omega)).symm
 ·and_intros<;>try first|exact trivial|exact rfl
theorem vd_bd2 {l : List Int} {d a : Int} (hC : AllC l) (hd : 1≤d∧d≤16) (ha : -40000000000≤a∧a≤40000000000) (hl : l.length≤4000) {k : Nat} (hk : k < l.length) : (-16000000000≤d * raw l k∧d * raw l k≤16000000000)∧(-160000000000000≤a * k∧a * k≤160000000000000) := by
 have h := hC k hk
 have h1 := h.1;have h2 := h.2
 have a1 : d * (-1000000000)≤d * raw l k := Int.mul_le_mul_of_nonneg_left h1 (by omega)
 have a2 : d * raw l k≤d * 1000000000 := Int.mul_le_mul_of_nonneg_left h2 (by omega)
 have c1 : (-40000000000) * (k : Int)≤a * k := Int.mul_le_mul_of_nonneg_right ha.1 (by omega)
 have c2 : a * (k : Int)≤40000000000 * k := Int.mul_le_mul_of_nonneg_right ha.2 (by omega)
 omega
theorem least_ok (l : List Int) (a d : Int) (hC : AllC l) (hd : 1≤d∧d≤16) (ha : -40000000000≤a∧a≤40000000000) (hl : l.length≤4000) : SemF Try.prog 78 [.slc 0 1 0 l.length,.int .i64 a,.int .i64 d] ⟨1,1,DV l⟩ (fun v _=>v = .tup [.int .i64 (lw l d a l.length),.test (decide (lw l d a l.length≤hw l d a l.length))]∧nameless v = true) := by
 refine enter tt_ok Try.func78 (nt := 48) (cd := body Try.f78) rfl rfl rfl rfl ?_
 intro _
 refine loop2 tt_ok [8,9,10] [] 1 (fun k : { k : Nat // k≤l.length }=>[(8,.int .i64 (lw l d a k.1)),(9,.int .i64 (hw l d a k.1)),(10,.int .i64 (k.1 : Nat))]) (fun _=>[]) (fun k=>l.length - k.1) ⟨0,Nat.zero_le _⟩ ?_
 intro _
 refine ⟨⟨th [] 1,rfl,rfl,rfl,rfl,rfl,rfl,?_,?_⟩,?_⟩
 ·and_intros<;>try first|exact trivial|exact rfl
 ·and_intros<;>try first|exact trivial|exact rfl
 intro ⟨k,hk⟩
 have hk : k≤l.length := hk
 intro _;refine ⟨fun g=>?_,fun g=>?_⟩
 rotate_left
 ·have g := of_decide_eq_false (show decide ((k : Int) < (l.length : Int)) = false from g)
  have : k = l.length := by omega
  subst this
  intro _
  exact ⟨rfl,rfl⟩
 have g := of_decide_eq_true (show decide ((k : Int) < (l.length : Int)) = true from g)
 have vb := vd_bd2 hC hd ha hl (k := k) (by omega)
 have ev : l.getD (0 + ((k : Nat) : Int).toNat) 0 = raw l k := by rw [Nat.zero_add];rfl
 intro _;refine ⟨show 0≤(k : Int)∧(k : Int) < (l.length : Int) by omega,?_⟩
 intro _;refine ⟨show 0 + (k : Int).toNat < l.length by omega,?_⟩
 intro _;refine ⟨show 0≤(k : Int)∧(k : Int) < (l.length : Int) by omega,?_⟩
 intro _;refine ⟨show 0 + (k : Int).toNat < l.length by omega,?_⟩
 refine ⟨⟨k + 1,by show k + 1≤l.length;omega⟩,by show l.length - (k + 1) < l.length - k;omega,th [] 1,rfl,rfl,rfl,rfl,rfl,rfl,?_,?_⟩
 ·and_intros<;>try first|exact trivial|exact rfl
  ·show max (lw l d a k) (d * raw l k - a * k) = max (lw l d a k) (IntKind.i64.wrap (IntKind.i64.wrap (d * l.getD (0 + ((k : Nat) : Int).toNat) 0) - IntKind.i64.wrap (a * (k : Int))))
   rw [ev,wrapS (d * raw l k) ⟨by omega,by omega⟩,wrapS (a * (k : Int)) ⟨by omega,by omega⟩,wrapS _ ⟨by omega,by omega⟩]
  ·show min (hw l d a k) (d * raw l k - a * k + d - 1) = min (hw l d a k) (IntKind.i64.wrap (IntKind.i64.wrap (IntKind.i64.wrap (IntKind.i64.wrap (d * l.getD (0 + ((k : Nat) : Int).toNat) 0) + d) - 1) - IntKind.i64.wrap (a * (k : Int))))
   rw [ev,wrapS (d * raw l k) ⟨by omega,by omega⟩,wrapS (a * (k : Int)) ⟨by omega,by omega⟩,wrapS (d * raw l k + d) ⟨by omega,by omega⟩,wrapS (d * raw l k + d - 1) ⟨by omega,by omega⟩,wrapS _ ⟨by omega,by omega⟩]
   have : d * raw l k - a * k + d - 1 = d * raw l k + d - 1 - a * k := by omega
   rw [this]
  ·exact (wrap_nat k (by omega)).symm
 ·and_intros<;>try first|exact trivial|exact rfl
theorem abs_ok (n : Int) (h : -4000000000000000000≤n∧n≤4000000000000000000) : SemF Try.prog 79 [.int .i64 n] ⟨0,0,[]⟩ (fun v _=>v = .int .i64 (max n (-n))∧nameless v = true) := by
 refine enter tt_ok Try.func79 (nt := 7) (cd := body Try.f79) rfl rfl rfl rfl ?_
 intro _
 refine ⟨?_,rfl⟩
 show V.int .i64 (max n (IntKind.i64.wrap (0 - n))) = _
 rw [wrapS _ ⟨by omega,by omega⟩,Int.zero_sub]
theorem rfirst1_ok (l : List Int) (d : Int) (hC : AllC l) (h1 : l.length = 1) (hd : 1≤d∧d≤16) : SemF Try.prog 72 [.slc 0 1 0 l.length,.int .i64 d] ⟨1,1,DV l⟩ (fun v _=>v = .tup [QV 0 (lw l d 0 l.length) d,.test (decide (lw l d 0 l.length≤hw l d 0 l.length))]∧nameless v = true) := by
 refine enter tt_ok Try.func72 (nt := 94) (cd := body Try.f72) rfl rfl rfl rfl ?_
 intro _;refine ⟨fun g=>?_,fun g=>?_⟩
 rotate_left
 ·have g := beq_eq_false_iff_ne.1 (show ((l.length : Int) == 1) = false from g)
  omega
 intro _
 refine call_pure [(0,some 0)] (least_ok l 0 d hC hd ⟨by decide,by decide⟩ (by omega)) rfl rfl rfl ?_ ?_ ?_
 ·and_intros<;>try first|exact trivial|exact rfl
 ·and_intros<;>try first|exact trivial|exact rfl
 intro v hv _
 subst hv
 intro _
 exact ⟨rfl,rfl⟩
instance decFe (l : List Int) (d a : Int) : Decidable (Fe l d a) := inferInstanceAs (Decidable (_≤_))
def Tr (l : List Int) (d lo a x : Int) : Prop := lo≤x∧x < a∧Cd x∧Fe l d x
def Bst (l : List Int) (d lo a : Int) : Option Int→Prop
 | none=>∀ x,¬ Tr l d lo a x
 | some x=>Tr l d lo a x∧∀ y,Tr l d lo a y→Kx x≤Kx y
def oQ (l : List Int) (d : Int) : Option Int→List V
 | none=>[.int .i64 0,.int .i64 0,.int .i64 0]
 | some x=>[.int .i64 x,.int .i64 (lw l d x l.length),.int .i64 d]
theorem Bst.step_no {l : List Int} {d lo a : Int} {o : Option Int} (h : Bst l d lo a o) (k : Cd a→¬ Fe l d a) : Bst l d lo (a + 1) o := by
 have back : ∀ y,Tr l d lo (a + 1) y→Tr l d lo a y := fun y ⟨h1,h2,h3,h4⟩=>⟨h1,by
  by_cases e : y = a
  ·subst e;exact absurd h4 (k h3)
  ·omega,h3,h4⟩
 cases o with
 | none=>exact fun x hx=>h x (back x hx)
 | some x=>exact ⟨⟨h.1.1,by have := h.1.2.1;omega,h.1.2.2⟩,fun y hy=>h.2 y (back y hy)⟩
theorem Bst.step_new {l : List Int} {d lo a : Int} (h : Bst l d lo a none) (ha : lo≤a) (hc : Cd a) (hf : Fe l d a) : Bst l d lo (a + 1) (some a) := by
 refine ⟨⟨ha,by omega,hc,hf⟩,fun y ⟨h1,h2,h3,h4⟩=>?_⟩
 by_cases e : y = a
 ·subst e;exact Int.le_refl _
 ·exact absurd ⟨h1,by omega,h3,h4⟩ (h y)
theorem Bst.step_better {l : List Int} {d lo a x : Int} (h : Bst l d lo a (some x)) (ha : lo≤a) (hc : Cd a) (hf : Fe l d a) (k : max a (-a) < max x (-x)) : Bst l d lo (a + 1) (some a) := by
 refine ⟨⟨ha,by omega,hc,hf⟩,fun y ⟨h1,h2,h3,h4⟩=>?_⟩
 by_cases e : y = a
 ·subst e;exact Int.le_refl _
 ·have q := h.2 y ⟨h1,by omega,h3,h4⟩
  unfold Kx at q ⊢
  split at q <;> split at q <;> split <;> omega
theorem Bst.step_keep {l : List Int} {d lo a x : Int} (h : Bst l d lo a (some x)) (k : ¬ max a (-a) < max x (-x)) : Bst l d lo (a + 1) (some x) := by
 refine ⟨⟨h.1.1,by have := h.1.2.1;omega,h.1.2.2⟩,fun y ⟨h1,h2,h3,h4⟩=>?_⟩
 by_cases e : y = a
 ·have hx := h.1.2.1
  subst e
  unfold Kx
  split <;> split <;> omega
 ·exact h.2 y ⟨h1,by omega,h3,h4⟩
theorem rfirst_ok (l : List Int) (d : Int) (hC : AllC l) (h1 : 2≤l.length) (hl : l.length≤4000) (hd : 1≤d∧d≤16) : SemF Try.prog 72 [.slc 0 1 0 l.length,.int .i64 d] ⟨1,1,DV l⟩ (fun v _=>(∃ o,Bst l d (loS l d) (max (loS l d) (hiS l d + 1)) o∧v = .tup [.agg (oQ l d o),.bool o.isSome])∧nameless v = true) := by
 have rb := rise_bd hC h1 hd
 have eL : IntKind.i64.wrap ((l.length : Int) - 1) = (l.length : Int) - 1 := wrapS _ ⟨by omega,by omega⟩
 have va := hC (l.length - 1) (by omega)
 have vb := hC 0 (by omega)
 have va1 := va.1;have va2 := va.2;have vb1 := vb.1;have vb2 := vb.2
 have f1 := fl_bd (d - 1 - rise l d) (l.length - 1) (by omega) 33000000000 ⟨by omega,by omega⟩
 have f2 := fl_bd (rise l d + d - 1) (l.length - 1) (by omega) 33000000000 ⟨by omega,by omega⟩
 have b1 : -33000000001≤loS l d∧loS l d≤33000000001 := by unfold loS;omega
 have b2 : -33000000001≤hiS l d∧hiS l d≤33000000001 := by unfold hiS;omega
 refine enter tt_ok Try.func72 (nt := 94) (cd := body Try.f72) rfl rfl rfl rfl ?_
 intro _;refine ⟨fun g=>?_,fun g=>?_⟩
 ·have g := beq_iff_eq.1 (show ((l.length : Int) == 1) = true from g)
  omega
 intro _;refine ⟨show 0≤IntKind.i64.wrap ((l.length : Int) - 1)∧IntKind.i64.wrap ((l.length : Int) - 1) < (l.length : Int) by rw [eL];omega,?_⟩
 intro _;refine ⟨show 0 + (IntKind.i64.wrap ((l.length : Int) - 1)).toNat < l.length by rw [eL];omega,?_⟩
 intro _;refine ⟨show 0≤(0 : Int)∧(0 : Int) < (l.length : Int) by omega,?_⟩
 intro _;refine ⟨show 0 + (0 : Int).toNat < l.length by show 0 + 0 < l.length;omega,?_⟩
 intro _;refine ⟨by kernel_rfl,?_⟩
 have eV : l.getD (0 + (IntKind.i64.wrap ((l.length : Int) - 1)).toNat) 0 = raw l (l.length - 1) := by
  rw [eL,Nat.zero_add,show ((l.length : Int) - 1).toNat = l.length - 1 by omega];rfl
 have eW : l.getD (0 + (0 : Int).toNat) 0 = raw l 0 := rfl
 obtain ⟨R,hR⟩ : ∃ R,R = IntKind.i64.wrap (d * IntKind.i64.wrap (l.getD (0 + (IntKind.i64.wrap ((l.length : Int) - 1)).toNat) 0 - l.getD (0 + (0 : Int).toNat) 0)) := ⟨_,rfl⟩
 have eR : R = rise l d := by
  rw [hR,eV,eW,wrapS (raw l (l.length - 1) - raw l 0) ⟨by omega,by omega⟩]
  show IntKind.i64.wrap (rise l d) = rise l d
  rw [wrapS _ ⟨by omega,by omega⟩]
 intro _
 refine call_pure [] (rfloor_ok (d - 1 - rise l d) (l.length - 1) (by omega) ⟨by omega,by omega⟩) rfl rfl rfl ?_ ?_ ?_
 ·and_intros<;>try first|exact trivial|exact rfl
 ·and_intros<;>try first|exact trivial|exact rfl
  first | (refine Eq.trans ?_ (congrArg (fun r=>IntKind.i64.wrap (0 - IntKind.i64.wrap (IntKind.i64.wrap (r - d) + 1))) hR);show _ = IntKind.i64.wrap (0 - IntKind.i64.wrap (IntKind.i64.wrap (R - d) + 1));rw [eR,wrapS (rise l d - d) ⟨by omega,by omega⟩,wrapS (rise l d - d + 1) ⟨by omega,by omega⟩,wrapS _ ⟨by omega,by omega⟩];omega) | exact eL.symm
  exact eL.symm
 intro v hv _
 subst hv
 intro _
 refine call_pure [] (rfloor_ok (rise l d + d - 1) (l.length - 1) (by omega) ⟨by omega,by omega⟩) rfl rfl rfl ?_ ?_ ?_
 ·and_intros<;>try first|exact trivial|exact rfl
 ·and_intros<;>try first|exact trivial|exact rfl
  first | (refine Eq.trans ?_ (congrArg (fun r=>IntKind.i64.wrap (IntKind.i64.wrap (r + d) - 1)) hR);show _ = IntKind.i64.wrap (IntKind.i64.wrap (R + d) - 1);rw [eR,wrapS (rise l d + d) ⟨by omega,by omega⟩,wrapS _ ⟨by omega,by omega⟩]) | exact eL.symm
  exact eL.symm
 intro v hv _
 subst hv
 intro _
 refine loop2 tt_ok [13,14] [2] 3 (fun p : { p : Int × Option Int // (loS l d≤p.1∧p.1≤max (loS l d) (hiS l d + 1))∧Bst l d (loS l d) p.1 p.2 }=>[(13,.bool p.1.2.isSome),(14,.int .i64 p.1.1)]) (fun p=>[(2,.cells (oQ l d p.1.2))]) (fun p=>(hiS l d + 1 - p.1.1).toNat) ⟨(loS l d,none),⟨Int.le_refl _,by show loS l d≤_;omega⟩,fun x hx=>by have h1 := hx.1;have h2 := hx.2.1;simp only at h2;omega⟩ ?_
 intro _
 refine ⟨⟨th [(2,some 2)] 3,rfl,rfl,rfl,rfl,rfl,rfl,?_,?_⟩,?_⟩
 ·and_intros<;>try first|exact trivial|exact rfl
  show loS l d = IntKind.i64.wrap (0 - fl (d - 1 - rise l d) (l.length - 1))
  rw [wrapS _ ⟨by omega,by omega⟩,Int.zero_sub];rfl
 ·and_intros<;>try first|exact trivial|exact rfl
 intro ⟨⟨a,o⟩,⟨ha1,ha2⟩,hB⟩
 have ha1 : loS l d≤a := ha1
 have ha2 : a≤max (loS l d) (hiS l d + 1) := ha2
 have hB : Bst l d (loS l d) a o := hB
 intro _;refine ⟨fun g=>?_,fun g=>?_⟩
 rotate_left
 ·have g := of_decide_eq_false (show decide (a≤hiS l d) = false from g)
  have hae : a = max (loS l d) (hiS l d + 1) := by omega
  subst hae
  cases o with
  | none =>
   intro _
   exact ⟨⟨none,hB,rfl⟩,rfl⟩
  | some x =>
   intro _
   exact ⟨⟨some x,hB,rfl⟩,rfl⟩
 have g := of_decide_eq_true (show decide (a≤hiS l d) = true from g)
 intro _
 refine call_pure [(0,some 0)] (least_ok l a d hC hd ⟨by omega,by omega⟩ hl) rfl rfl rfl ?_ ?_ ?_
 ·and_intros<;>try first|exact trivial|exact rfl
 ·and_intros<;>try first|exact trivial|exact rfl
 intro v hv _
 subst hv
 cases o with
 | none =>
  intro _;refine ⟨fun g=>?_,fun g=>?_⟩
  ·have hf : Fe l d a := of_decide_eq_true (show decide (lw l d a l.length≤hw l d a l.length) = true from g)
   intro _
   refine Or.inl ?_
   intro _
   refine rcoord_test _ _ _ ?_
   intro _;refine ⟨fun g=>?_,fun g=>?_⟩
   ·have hc := of_decide_eq_true (show decide (Cd a) = true from g)
    intro _;refine ⟨by kernel_rfl,?_⟩
    refine ⟨⟨(a + 1,some a),⟨by show loS l d≤a + 1;omega,by show a + 1≤_;omega⟩,Bst.step_new hB ha1 hc hf⟩,by show (hiS l d + 1 - (a + 1)).toNat < (hiS l d + 1 - a).toNat;omega,th [(2,some 2)] 3,rfl,rfl,rfl,rfl,rfl,rfl,?_,?_⟩
    ·and_intros<;>try first|exact trivial|exact rfl
     exact (wrapS (a + 1) ⟨by omega,by omega⟩).symm
    ·and_intros<;>try first|exact trivial|exact rfl
   ·have hc := of_decide_eq_false (show decide (Cd a) = false from g)
    intro _;refine ⟨by kernel_rfl,?_⟩
    refine ⟨⟨(a + 1,none),⟨by show loS l d≤a + 1;omega,by show a + 1≤_;omega⟩,Bst.step_no hB (fun q=>absurd q hc)⟩,by show (hiS l d + 1 - (a + 1)).toNat < (hiS l d + 1 - a).toNat;omega,th [(2,some 2)] 3,rfl,rfl,rfl,rfl,rfl,rfl,?_,?_⟩
    ·and_intros<;>try first|exact trivial|exact rfl
     exact (wrapS (a + 1) ⟨by omega,by omega⟩).symm
    ·and_intros<;>try first|exact trivial|exact rfl
  ·have hf : ¬ Fe l d a := of_decide_eq_false (show decide (lw l d a l.length≤hw l d a l.length) = false from g)
   intro _;refine ⟨by kernel_rfl,?_⟩
   refine ⟨⟨(a + 1,none),⟨by show loS l d≤a + 1;omega,by show a + 1≤_;omega⟩,Bst.step_no hB (fun _=>hf)⟩,by show (hiS l d + 1 - (a + 1)).toNat < (hiS l d + 1 - a).toNat;omega,th [(2,some 2)] 3,rfl,rfl,rfl,rfl,rfl,rfl,?_,?_⟩
   ·and_intros<;>try first|exact trivial|exact rfl
    exact (wrapS (a + 1) ⟨by omega,by omega⟩).symm
   ·and_intros<;>try first|exact trivial|exact rfl
 | some x =>
  have hx := hB.1.2.2.1
  have hx1 := hx.1;have hx2 := hx.2
  intro _;refine ⟨fun g=>?_,fun g=>?_⟩
  ·have hf : Fe l d a := of_decide_eq_true (show decide (lw l d a l.length≤hw l d a l.length) = true from g)
   intro _
   refine Or.inl ?_
   intro _
   refine rcoord_test _ _ _ ?_
   intro _;refine ⟨fun g=>?_,fun g=>?_⟩
   ·have hc := of_decide_eq_true (show decide (Cd a) = true from g)
    intro _
    refine Or.inl ?_
    intro _
    refine call_pure [] (abs_ok a ⟨by omega,by omega⟩) rfl rfl rfl ?_ ?_ ?_
    ·and_intros<;>try first|exact trivial|exact rfl
    ·and_intros<;>try first|exact trivial|exact rfl
    intro v hv _
    subst hv
    intro _
    refine Or.inl ?_
    intro _
    refine call_pure [] (abs_ok x ⟨by omega,by omega⟩) rfl rfl rfl ?_ ?_ ?_
    ·and_intros<;>try first|exact trivial|exact rfl
    ·and_intros<;>try first|exact trivial|exact rfl
    intro v hv _
    subst hv
    intro _;refine ⟨by kernel_rfl,?_⟩
    intro _;refine ⟨fun g=>?_,fun g=>?_⟩
    ·have g := of_decide_eq_true (show decide (max a (-a) < max x (-x)) = true from g)
     refine ⟨⟨(a + 1,some a),⟨by show loS l d≤a + 1;omega,by show a + 1≤_;omega⟩,Bst.step_better hB ha1 hc hf g⟩,by show (hiS l d + 1 - (a + 1)).toNat < (hiS l d + 1 - a).toNat;omega,th [(2,some 2)] 3,rfl,rfl,rfl,rfl,rfl,rfl,?_,?_⟩
     ·and_intros<;>try first|exact trivial|exact rfl
      exact (wrapS (a + 1) ⟨by omega,by omega⟩).symm
     ·and_intros<;>try first|exact trivial|exact rfl
    ·have g := of_decide_eq_false (show decide (max a (-a) < max x (-x)) = false from g)
     refine ⟨⟨(a + 1,some x),⟨by show loS l d≤a + 1;omega,by show a + 1≤_;omega⟩,Bst.step_keep hB g⟩,by show (hiS l d + 1 - (a + 1)).toNat < (hiS l d + 1 - a).toNat;omega,th [(2,some 2)] 3,rfl,rfl,rfl,rfl,rfl,rfl,?_,?_⟩
     ·and_intros<;>try first|exact trivial|exact rfl
      exact (wrapS (a + 1) ⟨by omega,by omega⟩).symm
     ·and_intros<;>try first|exact trivial|exact rfl
   ·have hc := of_decide_eq_false (show decide (Cd a) = false from g)
    intro _;refine ⟨by kernel_rfl,?_⟩
    refine ⟨⟨(a + 1,some x),⟨by show loS l d≤a + 1;omega,by show a + 1≤_;omega⟩,Bst.step_no hB (fun q=>absurd q hc)⟩,by show (hiS l d + 1 - (a + 1)).toNat < (hiS l d + 1 - a).toNat;omega,th [(2,some 2)] 3,rfl,rfl,rfl,rfl,rfl,rfl,?_,?_⟩
    ·and_intros<;>try first|exact trivial|exact rfl
     exact (wrapS (a + 1) ⟨by omega,by omega⟩).symm
    ·and_intros<;>try first|exact trivial|exact rfl
  ·have hf : ¬ Fe l d a := of_decide_eq_false (show decide (lw l d a l.length≤hw l d a l.length) = false from g)
   intro _;refine ⟨by kernel_rfl,?_⟩
   refine ⟨⟨(a + 1,some x),⟨by show loS l d≤a + 1;omega,by show a + 1≤_;omega⟩,Bst.step_no hB (fun _=>hf)⟩,by show (hiS l d + 1 - (a + 1)).toNat < (hiS l d + 1 - a).toNat;omega,th [(2,some 2)] 3,rfl,rfl,rfl,rfl,rfl,rfl,?_,?_⟩
   ·and_intros<;>try first|exact trivial|exact rfl
    exact (wrapS (a + 1) ⟨by omega,by omega⟩).symm
   ·and_intros<;>try first|exact trivial|exact rfl
theorem RFit_ok (l : List Int) (hl : l.length≤9223372036854775807) : SemF Try.prog 64 [.slc 0 1 0 l.length] ⟨1,1,DV l⟩ (fun v _=>FitR l v∧nameless v = true) := by
 refine enter tt_ok Try.func64 (nt := 31) (cd := body Try.f64) rfl rfl rfl rfl ?_
 intro _;refine ⟨fun g=>?_,fun g=>?_⟩
 ·have g := of_decide_eq_true (show decide ((l.length : Int) > 4000) = true from g)
  intro _
  exact ⟨by unfold FitR;rw [if_pos (by omega)],rfl⟩
 have g1 := of_decide_eq_false (show decide ((l.length : Int) > 4000) = false from g)
 have no : l.length = 0 ∨ ¬ AllC l→FitR l (.tup [QV 0 0 0,.bool false,.int .i64 1])∧nameless (.tup [QV 0 0 0,.bool false,.int .i64 1]) = true := fun h=>⟨by unfold FitR;rw [if_neg (by omega),if_pos h],rfl⟩
 intro _
 refine call_pure [(0,some 0)] (vals_ok l hl) rfl rfl rfl ?_ ?_ ?_
 ·and_intros<;>try first|exact trivial|exact rfl
 ·and_intros<;>try first|exact trivial|exact rfl
 intro v hv _
 subst hv
 intro _;refine ⟨fun g=>?_,fun g=>?_⟩
 ·have g : (!decide (Vls l)) = true := g
  rw [Bool.not_eq_true'] at g
  have g := of_decide_eq_false g
  intro _
  refine no ?_
  by_cases e : l.length = 0
  ·exact .inl e
  ·exact .inr fun q=>g ⟨q,by omega,by omega⟩
 have g2 : (!decide (Vls l)) = false := g
 rw [Bool.not_eq_false'] at g2
 have hV := of_decide_eq_true g2
 have hC := hV.1
 have hlen := hV.2.1
 have hl4 := hV.2.2
 intro _
 refine loop2 tt_ok [6] [] 2 (fun e : { e : Nat // (1≤e∧e≤17)∧Bef l e }=>[(6,.int .i64 (e.1 : Nat))]) (fun _=>[]) (fun e=>17 - e.1) ⟨1,⟨by omega,by omega⟩,fun e a h1 h2=>by omega⟩ ?_
 intro _
 refine ⟨⟨th [] 2,rfl,rfl,rfl,rfl,rfl,rfl,?_,?_⟩,?_⟩
 ·and_intros<;>try first|exact trivial|exact rfl
 ·and_intros<;>try first|exact trivial|exact rfl
 intro ⟨e,⟨he1,he2⟩,hBe⟩
 intro _;refine ⟨fun g=>?_,fun g=>?_⟩
 rotate_left
 ·have g := of_decide_eq_false (show decide ((e : Int)≤16) = false from g)
  have : e = 17 := by omega
  subst this
  intro _
  exact ⟨by unfold FitR;rw [if_neg (by omega),if_neg (fun h=>h.elim (fun q=>by omega) (fun q=>q hC))];exact .inr ⟨hBe,rfl⟩,rfl⟩
 have g := of_decide_eq_true (show decide ((e : Int)≤16) = true from g)
 have hd : 1≤(e : Int)∧(e : Int)≤16 := by omega
 have nxt : (∀ a,a ∈ SS l e→¬ Fe l e a)→Bef l ((e + 1 : Nat) : Int) := fun k e' a h1 h2 h3=>by
  by_cases q : e' = e
  ·rw [q];rw [q] at h3;exact k a h3
  ·exact hBe e' a h1 (by omega) h3
 have wE : ((e + 1 : Nat) : Int) = IntKind.i64.wrap ((e : Int) + 1) := by rw [wrapS _ ⟨by omega,by omega⟩];omega
 intro _
 by_cases h1 : l.length = 1
 ·have eS : SS l e = [0] := by unfold SS;rw [if_pos h1]
  refine call_pure [(0,some 0)] (rfirst1_ok l e hC h1 hd) rfl rfl rfl ?_ ?_ ?_
  ·and_intros<;>try first|exact trivial|exact rfl
  ·and_intros<;>try first|exact trivial|exact rfl
  intro v hv _
  subst hv
  intro _;refine ⟨fun g=>?_,fun g=>?_⟩
  ·have hf := of_decide_eq_true (show decide (lw l e 0 l.length≤hw l e 0 l.length) = true from g)
   intro _
   refine ⟨?_,rfl⟩
   unfold FitR
   rw [if_neg (by omega),if_neg (fun h=>h.elim (fun q=>by omega) (fun q=>q hC))]
   exact .inl ⟨e,0,hd,by rw [eS];simp,hf,hBe,fun a' h1' h2'=>by
    rw [eS] at h1'
    have : a' = 0 := by simpa using h1'
    subst this
    exact absurd h2' (by omega),rfl⟩
  ·have hf : ¬ Fe l e 0 := of_decide_eq_false (show decide (lw l e 0 l.length≤hw l e 0 l.length) = false from g)
   refine ⟨⟨e + 1,⟨by omega,by omega⟩,nxt (fun a h=>by
    rw [eS] at h
    have : a = 0 := by simpa using h
    subst this;exact hf)⟩,by show 17 - (e + 1) < 17 - e;omega,th [] 2,rfl,rfl,rfl,rfl,rfl,rfl,?_,?_⟩
   ·and_intros<;>try first|exact trivial|exact rfl
    exact wE
   ·and_intros<;>try first|exact trivial|exact rfl
 have eS : ∀ a,a ∈ SS l e ↔ loS l e≤a∧a≤hiS l e∧Cd a := fun a=>by unfold SS;rw [if_neg h1,mem_slopes]
 refine call_pure [(0,some 0)] (rfirst_ok l e hC (by omega) hl4 hd) rfl rfl rfl ?_ ?_ ?_
 ·and_intros<;>try first|exact trivial|exact rfl
 ·and_intros<;>try first|exact trivial|exact rfl
 intro v hv _
 obtain ⟨o,hB,rfl⟩ := hv
 cases o with
 | none =>
  refine ⟨⟨e + 1,⟨by omega,by omega⟩,nxt (fun a h hf=>by
   have := (eS a).1 h
   exact hB a ⟨this.1,by omega,this.2.2,hf⟩)⟩,by show 17 - (e + 1) < 17 - e;omega,th [] 2,rfl,rfl,rfl,rfl,rfl,rfl,?_,?_⟩
  ·and_intros<;>try first|exact trivial|exact rfl
   exact wE
  ·and_intros<;>try first|exact trivial|exact rfl
 | some x =>
  intro _
  refine ⟨?_,rfl⟩
  unfold FitR
  rw [if_neg (by omega),if_neg (fun h=>h.elim (fun q=>by omega) (fun q=>q hC))]
  have hx := hB.1
  exact .inl ⟨e,x,hd,(eS x).2 ⟨hx.1,by have := hx.1;have := hx.2.1;omega,hx.2.2.1⟩,hx.2.2.2,hBe,fun a' h1' h2' hf=>by
   have q := (eS a').1 h1'
   have := hB.2 a' ⟨q.1,by omega,q.2.2,hf⟩
   omega,rfl⟩
set_option maxHeartbeats 8000000 in
theorem split_ok (f : Int) (l : List Int) (hM : Mok f l) : SemF Try.prog 54 [.int .i64 f,.slc 0 1 0 l.length] ⟨1,1,DV l⟩ (fun v h'=>∃ ps,Spl f l ps∧v = .grw 1 ps.length∧h' = ⟨2,1,[(1,.arr PK .grow (.recs ps))]⟩) := by
 have m1 := hM.1.1;have hl := hM.1.2.1;have hC := hM.1.2.2;have m3 := hM.2.1;have m4 := hM.2.2
 refine SemF.ret ?_
 refine enter tt_ok Try.func54 (nt := 62) (cd := body Try.f54) rfl rfl rfl rfl ?_
 intro _
 refine loop2 tt_ok [5,6] [1] 2 (fun x : { x : Nat × Rws // x.1≤l.length∧x.2.length≤x.1∧∀ qs,Spl (f + (x.1 : Nat)) (l.drop x.1) qs→Spl f l (x.2 ++ qs) }=>[(5,.grw 1 x.1.2.length),(6,.int .i64 (x.1.1 : Nat))]) (fun x=>[(1,.arr PK .grow (.recs x.1.2))]) (fun x=>l.length - x.1.1) ⟨(0,[]),Nat.zero_le _,Nat.le_refl _,fun qs h=>by simpa using h⟩ ?_
 intro _
 refine ⟨⟨th [(1,none)] 2,rfl,rfl,rfl,rfl,rfl,rfl,?_,?_⟩,?_⟩
 ·and_intros<;>try first|exact trivial|exact rfl
 ·and_intros<;>try first|exact trivial|exact rfl
 intro ⟨(at_,ps),hat,hpl,hps⟩
 have hat : at_≤l.length := hat
 have hpl : ps.length≤at_ := hpl
 have hps : ∀ qs,Spl (f + (at_ : Nat)) (l.drop at_) qs→Spl f l (ps ++ qs) := hps
 intro _;refine ⟨fun g=>?_,fun g=>?_⟩
 rotate_left
 ·have g := of_decide_eq_false (show decide ((at_ : Int) < (l.length : Int)) = false from g)
  have e : at_ = l.length := by omega
  subst e
  have hS : Spl f l ps := by
   have := hps [] (by rw [List.drop_length];exact Spl.nil _)
   simpa using this
  intro _
  refine ⟨[(1,some 1)],.grw 1 ps.length,⟨2,1,[(1,.arr PK .grow (.recs ps))]⟩,rfl,rfl,rfl,rfl,?_,?_,ps,hS,rfl,rfl⟩
  ·and_intros<;>try first|exact trivial|exact rfl
  ·and_intros<;>try first|exact trivial|exact rfl
 have g := of_decide_eq_true (show decide ((at_ : Int) < (l.length : Int)) = true from g)
 have hCd : AllC (l.drop at_) := allC_drop hC
 have ld : (l.drop at_).length = l.length - at_ := by simp
 have z : 0 + ((at_ : Nat) : Int).toNat = at_ := by omega
 have w1 : IntKind.i64.wrap ((at_ : Int) + 1) = ((at_ + 1 : Nat) : Int) := wrap_nat _ (by omega)
 have N1 : (IntKind.i64.wrap ((at_ : Int) + 1) - (at_ : Int)).toNat = 1 := by rw [w1];omega
 have lt : ((l.drop at_).take 1).length = 1 := tk_len (by omega)
 intro _;refine ⟨⟨by omega,show (at_ : Int)≤IntKind.i64.wrap ((at_ : Int) + 1) by rw [w1];omega,show IntKind.i64.wrap ((at_ : Int) + 1)≤(l.length : Int) by rw [w1];omega,.inl (show (at_ : Int) < (l.length : Int) by omega)⟩,?_⟩
 have hc := RFit_ok ((l.drop at_).take 1) (by omega)
 rw [lt] at hc
 have hc' : SemF Try.prog 64 [.slc 0 1 0 (IntKind.i64.wrap ((at_ : Int) + 1) - (at_ : Int)).toNat] ⟨1,1,DV ((l.drop at_).take 1)⟩ (fun v _=>FitR ((l.drop at_).take 1) v∧nameless v = true) := by rw [N1];exact hc
 intro _
 refine call_sub hc' (show (l.drop at_).take 1 = (l.drop (0 + ((at_ : Nat) : Int).toNat)).take (IntKind.i64.wrap ((at_ : Int) + 1) - (at_ : Int)).toNat from by rw [z,N1]) (show 0 + ((at_ : Nat) : Int).toNat + (IntKind.i64.wrap ((at_ : Int) + 1) - (at_ : Int)).toNat≤l.length from by rw [z,N1];omega) rfl rfl ?_
 intro v hv _
 rcases fit_cases (allC_take hCd (by omega)) (by omega) (by omega) hv with ⟨a0,b0,d0,rfl,hq0⟩ | ⟨_,hq0⟩
 rotate_left
 ·exact absurd (fx_one hCd (by omega)) hq0
 intro _
 refine loop2 tt_ok [10] [2] 3 (fun x : { x : Nat × Int × Int × Int // (1≤x.1∧at_ + x.1≤l.length)∧QF ((l.drop at_).take x.1) x.2.1 x.2.2.1 x.2.2.2 }=>[(10,.int .i64 ((at_ + x.1.1 : Nat) : Int))]) (fun x=>[(2,.cells [.int .i64 x.1.2.1,.int .i64 x.1.2.2.1,.int .i64 x.1.2.2.2])]) (fun x=>l.length - (at_ + x.1.1)) ⟨(1,a0,b0,d0),⟨Nat.le_refl _,show at_ + 1≤l.length by omega⟩,hq0⟩ ?_
 intro _
 refine ⟨⟨th [] 3,rfl,rfl,rfl,rfl,rfl,rfl,?_,?_⟩,?_⟩
 ·and_intros<;>try first|exact trivial|exact rfl
  all_goals exact w1.symm
 ·and_intros<;>try first|exact trivial|exact rfl
 intro ⟨(n,a,b,d),⟨e1,e2⟩,hq⟩
 have e1 : 1≤n := e1
 have e2 : at_ + n≤l.length := e2
 have hq : QF ((l.drop at_).take n) a b d := hq
 intro _;refine ⟨fun g=>?_,fun g=>?_⟩
 rotate_left
 ·have g5 : decide (((at_ + n : Nat) : Int) < (l.length : Int)) = false := g
  have g5 := of_decide_eq_false g5
  have hL : Lg (l.drop at_) n a b d := ⟨⟨e1,by omega⟩,hq,fun q=>by omega⟩
  have n1 := hL.1.1
  have n2 : n≤l.length - at_ := by have := hL.1.2;rw [ld] at this;exact this
  have ef : IntKind.i64.wrap (f + (at_ : Int)) = f + (at_ : Nat) := wrapS _ ⟨by omega,by omega⟩
  have eu : IntKind.i64.wrap (f + ((at_ + n : Nat) : Int)) = f + (at_ : Nat) + (n : Nat) := by rw [wrapS _ ⟨by omega,by omega⟩];omega
  intro _;refine ⟨rfl,?_⟩
  intro _;refine ⟨fun g3=>by simp at g3,fun _=>?_⟩
  refine ⟨⟨rfl,show ps.length + 1≤4611686018427387904 by omega,show (ps.length + 1) * 40≤140737488355328 by omega⟩,?_⟩
  refine ⟨⟨(at_ + n,ps ++ [pt (f + (at_ : Nat)) (f + (at_ : Nat) + (n : Nat)) a b d]),show at_ + n≤l.length by omega,show (ps ++ [pt (f + (at_ : Nat)) (f + (at_ : Nat) + (n : Nat)) a b d]).length≤at_ + n by simp;omega,fun qs hq=>?_⟩,by show l.length - (at_ + n) < l.length - at_;omega,th [(1,some 4)] 2,rfl,rfl,rfl,rfl,rfl,rfl,?_,?_⟩
  ·have := hps (pt (f + (at_ : Nat)) (f + (at_ : Nat) + (n : Nat)) a b d :: qs) (Spl.cons hL (by rw [List.drop_drop];have hq : Spl (f + ((at_ + n : Nat) : Int)) (l.drop (at_ + n)) qs := hq;rw [show f + (at_ : Nat) + (n : Nat) = f + ((at_ + n : Nat) : Int) by omega];exact hq))
   simpa using this
  ·and_intros<;>try first|exact trivial|exact rfl
   show (ps ++ [pt (f + (at_ : Nat)) (f + (at_ : Nat) + (n : Nat)) a b d]).length = ps.length + 1
   simp
  ·and_intros<;>try first|exact trivial|exact rfl
   show ps ++ [pt (f + (at_ : Nat)) (f + (at_ : Nat) + (n : Nat)) a b d] = ps ++ [[.n (IntKind.i64.wrap (f + (at_ : Int))),.n (IntKind.i64.wrap (f + ((at_ + n : Nat) : Int))),.n a,.n b,.n d]]
   rw [eu,ef];rfl
 have g5 : decide (((at_ + n : Nat) : Int) < (l.length : Int)) = true := g
 have g5 := of_decide_eq_true g5
 have w2 : IntKind.i64.wrap (((at_ + n : Nat) : Int) + 1) = ((at_ + n + 1 : Nat) : Int) := wrap_nat _ (by omega)
 have N2 : (IntKind.i64.wrap (((at_ + n : Nat) : Int) + 1) - (at_ : Int)).toNat = n + 1 := by rw [w2];omega
 have lt2 : ((l.drop at_).take (n + 1)).length = n + 1 := tk_len (by omega)
 intro _;refine ⟨⟨by omega,show (at_ : Int)≤IntKind.i64.wrap (((at_ + n : Nat) : Int) + 1) by rw [w2];omega,show IntKind.i64.wrap (((at_ + n : Nat) : Int) + 1)≤(l.length : Int) by rw [w2];omega,.inl (show (at_ : Int) < (l.length : Int) by omega)⟩,?_⟩
 have hc := RFit_ok ((l.drop at_).take (n + 1)) (by omega)
 rw [lt2] at hc
 have hc' : SemF Try.prog 64 [.slc 0 1 0 (IntKind.i64.wrap (((at_ + n : Nat) : Int) + 1) - (at_ : Int)).toNat] ⟨1,1,DV ((l.drop at_).take (n + 1))⟩ (fun v _=>FitR ((l.drop at_).take (n + 1)) v∧nameless v = true) := by rw [N2];exact hc
 intro _
 refine call_sub hc' (show (l.drop at_).take (n + 1) = (l.drop (0 + ((at_ : Nat) : Int).toNat)).take (IntKind.i64.wrap (((at_ + n : Nat) : Int) + 1) - (at_ : Int)).toNat from by rw [z,N2]) (show 0 + ((at_ : Nat) : Int).toNat + (IntKind.i64.wrap (((at_ + n : Nat) : Int) + 1) - (at_ : Int)).toNat≤l.length from by rw [z,N2];omega) rfl rfl ?_
 intro v hv _
 rcases fit_cases (allC_take hCd (by omega)) (by omega) (by omega) hv with ⟨a2,b2,d2,rfl,hq2⟩ | ⟨rfl,hq2⟩
 ·refine ⟨⟨(n + 1,a2,b2,d2),⟨show 1≤n + 1 by omega,show at_ + (n + 1)≤l.length by omega⟩,hq2⟩,by show l.length - (at_ + (n + 1)) < l.length - (at_ + n);omega,th [] 3,rfl,rfl,rfl,rfl,rfl,rfl,?_,?_⟩
  ·and_intros<;>try first|exact trivial|exact rfl
   all_goals exact w2.symm
  ·and_intros<;>try first|exact trivial|exact rfl
 have hL : Lg (l.drop at_) n a b d := ⟨⟨e1,by omega⟩,hq,fun _=>hq2⟩
 have n1 := hL.1.1
 have n2 : n≤l.length - at_ := by have := hL.1.2;rw [ld] at this;exact this
 have ef : IntKind.i64.wrap (f + (at_ : Int)) = f + (at_ : Nat) := wrapS _ ⟨by omega,by omega⟩
 have eu : IntKind.i64.wrap (f + ((at_ + n : Nat) : Int)) = f + (at_ : Nat) + (n : Nat) := by rw [wrapS _ ⟨by omega,by omega⟩];omega
 intro _;refine ⟨rfl,?_⟩
 intro _;refine ⟨fun g3=>by simp at g3,fun _=>?_⟩
 refine ⟨⟨rfl,show ps.length + 1≤4611686018427387904 by omega,show (ps.length + 1) * 40≤140737488355328 by omega⟩,?_⟩
 refine ⟨⟨(at_ + n,ps ++ [pt (f + (at_ : Nat)) (f + (at_ : Nat) + (n : Nat)) a b d]),show at_ + n≤l.length by omega,show (ps ++ [pt (f + (at_ : Nat)) (f + (at_ : Nat) + (n : Nat)) a b d]).length≤at_ + n by simp;omega,fun qs hq=>?_⟩,by show l.length - (at_ + n) < l.length - at_;omega,th [(1,some 5)] 2,rfl,rfl,rfl,rfl,rfl,rfl,?_,?_⟩
 ·have := hps (pt (f + (at_ : Nat)) (f + (at_ : Nat) + (n : Nat)) a b d :: qs) (Spl.cons hL (by rw [List.drop_drop];have hq : Spl (f + ((at_ + n : Nat) : Int)) (l.drop (at_ + n)) qs := hq;rw [show f + (at_ : Nat) + (n : Nat) = f + ((at_ + n : Nat) : Int) by omega];exact hq))
  simpa using this
 ·and_intros<;>try first|exact trivial|exact rfl
  show (ps ++ [pt (f + (at_ : Nat)) (f + (at_ : Nat) + (n : Nat)) a b d]).length = ps.length + 1
  simp
 ·and_intros<;>try first|exact trivial|exact rfl
  show ps ++ [pt (f + (at_ : Nat)) (f + (at_ : Nat) + (n : Nat)) a b d] = ps ++ [[.n (IntKind.i64.wrap (f + (at_ : Int))),.n (IntKind.i64.wrap (f + ((at_ + n : Nat) : Int))),.n a,.n b,.n d]]
  rw [eu,ef];rfl
def RO (ps : Rws) : Prop := ∀ i,i < ps.length→Ok1 ps i∧0≤gx ps i 0
def AlR (ps : Rws) (v : V) (h' : H) : Prop :=
 ((RO ps∧AllC (vals ps))∧v = .tup [.grw 1 (vals ps).length,.test (decide (1≤(vals ps).length∧(vals ps).length≤4000))]∧h' = ⟨2,1,[(1,.arr [.int .i64] .grow (.ints (vals ps)))]⟩) ∨ (¬ (RO ps∧AllC (vals ps))∧v = .tup [.nils,.bool false]∧h' = ⟨1,1,[]⟩)
theorem RO.inO {ps : Rws} (h : RO ps) (h1 : 1≤(vals ps).length) (h2 : (vals ps).length≤4000) : InO ps := by
 have hO : ∀ i,i < ps.length→Ok1 ps i := fun i hi=>(h i hi).1
 have l1 : ((vals ps).length : Int) = atO ps ps.length - gx ps 0 0 := vk_len hO ps.length (Nat.le_refl _)
 have p1 : 1≤ps.length := by
  by_cases c : ps.length = 0
  ·have : (vals ps).length = 0 := by unfold vals;rw [c];rfl
   omega
  ·omega
 exact ⟨⟨p1,(h 0 (by omega)).2⟩,hO,by omega⟩
theorem InO.ro {ps : Rws} (h : InO ps) : RO ps∧1≤(vals ps).length∧(vals ps).length≤4000 := by
 have hO := h.2.1
 have l1 : ((vals ps).length : Int) = atO ps ps.length - gx ps 0 0 := vk_len hO ps.length (Nat.le_refl _)
 have u := at_up h.1.2 hO
 have k := h.2.2
 have k1 := h.1.1
 have k0 := h.1.2
 refine ⟨fun i hi=>⟨hO i hi,?_⟩,?_,by omega⟩
 ·have := u i (by omega);rw [(hO i hi).1];omega
 ·have := u ps.length (Nat.le_refl _);omega
set_option maxHeartbeats 16000000 in
theorem all_ok (ps : Rws) (hl : ps.length≤9223372036854775807) : SemF Try.prog 44 [.slc 0 5 0 ps.length] ⟨1,1,DP ps⟩ (AlR ps) := by
 refine SemF.ret ?_
 refine enter tt_ok Try.func44 (nt := 90) (cd := body Try.f44) rfl rfl rfl rfl ?_
 have no : ¬ (RO ps∧AllC (vals ps))→AlR ps (.tup [.nils,.bool false]) ⟨1,1,[]⟩ := fun h=>.inr ⟨h,rfl,rfl⟩
 intro _
 refine loop2 tt_ok [4,5] [1] 2 (fun k : { k : Nat // k≤ps.length∧(∀ i,i < k→Ok1 ps i∧0≤gx ps i 0)∧AllC (vk ps k) }=>[(4,.grw 1 (vk ps k.1).length),(5,.int .i64 (k.1 : Nat))]) (fun k=>[(1,.arr [.int .i64] .grow (.ints (vk ps k.1)))]) (fun k=>ps.length - k.1) ⟨0,Nat.zero_le _,fun i h=>by omega,fun i h=>by simp [vk] at h⟩ ?_
 intro _
 refine ⟨⟨th [(1,none)] 2,rfl,rfl,rfl,rfl,rfl,rfl,?_,?_⟩,?_⟩
 ·and_intros<;>try first|exact trivial|exact rfl
 ·and_intros<;>try first|exact trivial|exact rfl
 intro ⟨k,hk,hO,hA⟩
 have hk : k≤ps.length := hk
 have hO : ∀ i,i < k→Ok1 ps i∧0≤gx ps i 0 := hO
 have hA : AllC (vk ps k) := hA
 have vl := vk_len (fun i hi=>(hO i hi).1) k (Nat.le_refl _)
 intro _;refine ⟨fun g=>?_,fun g=>?_⟩
 rotate_left
 ·have g := of_decide_eq_false (show decide ((k : Int) < (ps.length : Int)) = false from g)
  have e : k = ps.length := by omega
  subst e
  intro _;refine ⟨fun g=>?_,fun g=>?_⟩
  ·have g := of_decide_eq_true (show decide (((vals ps).length : Int) ≥ 1) = true from g)
   intro _
   refine ⟨[(1,some 1)],.tup [.grw 1 (vals ps).length,.test (decide (1≤(vals ps).length∧(vals ps).length≤4000))],⟨2,1,[(1,.arr [.int .i64] .grow (.ints (vals ps)))]⟩,rfl,rfl,rfl,rfl,?_,?_,.inl ⟨⟨hO,hA⟩,rfl,rfl⟩⟩
   ·and_intros<;>try first|exact trivial|exact rfl
    show decide (1≤(vals ps).length∧(vals ps).length≤4000) = decide (((vals ps).length : Int)≤4000)
    by_cases c : (vals ps).length≤4000
    ·rw [decide_eq_true (show (1≤(vals ps).length∧(vals ps).length≤4000) from ⟨by omega,c⟩),decide_eq_true (by omega)]
    ·rw [decide_eq_false (fun q : (1≤(vals ps).length∧(vals ps).length≤4000)=>c q.2),decide_eq_false (by omega)]
   ·and_intros<;>try first|exact trivial|exact rfl
  ·have g := of_decide_eq_false (show decide (((vals ps).length : Int) ≥ 1) = false from g)
   intro _
   refine ⟨[(1,some 1)],.tup [.grw 1 (vals ps).length,.test (decide (1≤(vals ps).length∧(vals ps).length≤4000))],⟨2,1,[(1,.arr [.int .i64] .grow (.ints (vals ps)))]⟩,rfl,rfl,rfl,rfl,?_,?_,.inl ⟨⟨hO,hA⟩,rfl,rfl⟩⟩
   ·and_intros<;>try first|exact trivial|exact rfl
    exact decide_eq_false (fun q : (1≤(vals ps).length∧(vals ps).length≤4000)=>by have := q.1;omega)
   ·and_intros<;>try first|exact trivial|exact rfl
 have g := of_decide_eq_true (show decide ((k : Int) < (ps.length : Int)) = true from g)
 have z : 0 + ((k : Nat) : Int).toNat = k := by omega
 intro _;refine ⟨show 0≤(k : Int)∧(k : Int) < (ps.length : Int) by omega,?_⟩
 intro _;refine ⟨show 0 + (k : Int).toNat < ps.length by omega,?_⟩
 intro _
 refine call_pure [] (rvalid_ok (gx ps (0 + ((k : Nat) : Int).toNat) 2) (gx ps (0 + ((k : Nat) : Int).toNat) 3) (gx ps (0 + ((k : Nat) : Int).toNat) 4)) rfl rfl rfl ?_ ?_ ?_
 ·and_intros<;>try first|exact trivial|exact rfl
 ·and_intros<;>try first|exact trivial|exact rfl
 intro v hv _
 subst hv
 intro _;refine ⟨fun g=>?_,fun g=>?_⟩
 ·have g5 : (!decide (Qv (gx ps (0 + ((k : Nat) : Int).toNat) 2) (gx ps (0 + ((k : Nat) : Int).toNat) 3) (gx ps (0 + ((k : Nat) : Int).toNat) 4))) = true := g
  rw [z,Bool.not_eq_true'] at g5
  have g5 := of_decide_eq_false g5
  intro _;refine ⟨by kernel_rfl,?_⟩
  intro _
  refine ⟨[],.tup [.nils,.bool false],⟨1,1,[]⟩,rfl,rfl,rfl,rfl,?_,?_,no (fun h=>g5 (h.1 k (by omega)).1.2.2.2)⟩
  ·and_intros<;>try first|exact trivial|exact rfl
  ·and_intros<;>try first|exact trivial|exact rfl
 have g5 : (!decide (Qv (gx ps (0 + ((k : Nat) : Int).toNat) 2) (gx ps (0 + ((k : Nat) : Int).toNat) 3) (gx ps (0 + ((k : Nat) : Int).toNat) 4))) = false := g
 rw [z,Bool.not_eq_false'] at g5
 have g5 := of_decide_eq_true g5
 intro _;refine ⟨fun g=>?_,fun g=>?_⟩
 ·have g6 : decide (gx ps (0 + ((k : Nat) : Int).toNat) 0 < 0) = true := g
  rw [z] at g6
  have g6 := of_decide_eq_true g6
  intro _;refine ⟨by kernel_rfl,?_⟩
  intro _
  refine ⟨[],.tup [.nils,.bool false],⟨1,1,[]⟩,rfl,rfl,rfl,rfl,?_,?_,no (fun h=>by have := (h.1 k (by omega)).2;omega)⟩
  ·and_intros<;>try first|exact trivial|exact rfl
  ·and_intros<;>try first|exact trivial|exact rfl
 have g6 : decide (gx ps (0 + ((k : Nat) : Int).toNat) 0 < 0) = false := g
 rw [z] at g6
 have g6 := of_decide_eq_false g6
 intro _;refine ⟨fun g=>?_,fun g=>?_⟩
 ·have g7 : decide (gx ps (0 + ((k : Nat) : Int).toNat) 1≤gx ps (0 + ((k : Nat) : Int).toNat) 0) = true := g
  rw [z] at g7
  have g7 := of_decide_eq_true g7
  intro _;refine ⟨by kernel_rfl,?_⟩
  intro _
  refine ⟨[],.tup [.nils,.bool false],⟨1,1,[]⟩,rfl,rfl,rfl,rfl,?_,?_,no (fun h=>by have := (h.1 k (by omega)).1.2.1;omega)⟩
  ·and_intros<;>try first|exact trivial|exact rfl
  ·and_intros<;>try first|exact trivial|exact rfl
 have g7 : decide (gx ps (0 + ((k : Nat) : Int).toNat) 1≤gx ps (0 + ((k : Nat) : Int).toNat) 0) = false := g
 rw [z] at g7
 have g7 := of_decide_eq_false g7
 intro _;refine ⟨fun g=>?_,fun g=>?_⟩
 ·have g8 : decide (gx ps (0 + ((k : Nat) : Int).toNat) 1 > 4001) = true := g
  rw [z] at g8
  have g8 := of_decide_eq_true g8
  intro _;refine ⟨by kernel_rfl,?_⟩
  intro _
  refine ⟨[],.tup [.nils,.bool false],⟨1,1,[]⟩,rfl,rfl,rfl,rfl,?_,?_,no (fun h=>by have := (h.1 k (by omega)).1.2.2.1;omega)⟩
  ·and_intros<;>try first|exact trivial|exact rfl
  ·and_intros<;>try first|exact trivial|exact rfl
 have g8 : decide (gx ps (0 + ((k : Nat) : Int).toNat) 1 > 4001) = false := g
 rw [z] at g8
 have g8 := of_decide_eq_false g8
 have dz : decide ((k : Int) > 0) = !decide (k = 0) := by
  by_cases c : k = 0
  ·subst c;rfl
  ·rw [decide_eq_true (by omega),decide_eq_false c];rfl
 intro _;refine ⟨fun g=>?_,fun g=>?_⟩
 rotate_left
 ·have c : k = 0 := by
   have g : decide ((k : Int) > 0) = false := g
   have := of_decide_eq_false g
   omega
  have g9 : gx ps k 0 = atO ps k := by rw [c];rfl
  intro _;refine ⟨by kernel_rfl,?_⟩
  have ho : Ok1 ps k∧0≤gx ps k 0 := ⟨⟨g9,by omega,by omega,g5⟩,by omega⟩
  obtain ⟨m,hm⟩ : ∃ m,m = (gx ps k 1 - gx ps k 0).toNat := ⟨_,rfl⟩
  have k0 : 0≤gx ps 0 0 := by
   by_cases c : k = 0
   ·have := ho.2;rw [c] at this;exact this
   ·exact (hO 0 (by omega)).2
  intro _
  refine loop2 tt_ok [4,8] [1] 3 (fun j : { j : Nat // j≤m∧AllC (vk ps k ++ mk (gx ps k 2) (gx ps k 3) (gx ps k 4) j) }=>[(4,.grw 1 (vk ps k ++ mk (gx ps k 2) (gx ps k 3) (gx ps k 4) j.1).length),(8,.int .i64 (gx ps k 0 + (j.1 : Nat)))]) (fun j=>[(1,.arr [.int .i64] .grow (.ints (vk ps k ++ mk (gx ps k 2) (gx ps k 3) (gx ps k 4) j.1)))]) (fun j=>m - j.1) ⟨0,Nat.zero_le _,by simpa [mk] using hA⟩ ?_
  intro _
  refine ⟨⟨th [] 3,rfl,rfl,rfl,rfl,rfl,rfl,?_,?_⟩,?_⟩
  ·and_intros<;>try first|exact trivial|exact rfl
   ·show (vk ps k ++ mk (gx ps k 2) (gx ps k 3) (gx ps k 4) 0).length = (vk ps k).length
    simp [mk]
   ·show gx ps k 0 + ((0 : Nat) : Int) = gx ps (0 + ((k : Nat) : Int).toNat) 0
    rw [z];omega
  ·and_intros<;>try first|exact trivial|exact rfl
   show vk ps k ++ mk (gx ps k 2) (gx ps k 3) (gx ps k 4) 0 = vk ps k
   simp [mk]
  intro ⟨j,hj,hB⟩
  have hj : j≤m := hj
  have hB : AllC (vk ps k ++ mk (gx ps k 2) (gx ps k 3) (gx ps k 4) j) := hB
  have jl : (vk ps k ++ mk (gx ps k 2) (gx ps k 3) (gx ps k 4) j).length = (vk ps k).length + j := by rw [List.length_append,mk_len]
  intro _;refine ⟨fun g=>?_,fun g=>?_⟩
  rotate_left
  ·have g : decide (gx ps k 0 + (j : Nat) < gx ps (0 + ((k : Nat) : Int).toNat) 1) = false := g
   rw [z] at g
   have g := of_decide_eq_false g
   have e : j = m := by omega
   have ev : vk ps (k + 1) = vk ps k ++ mk (gx ps k 2) (gx ps k 3) (gx ps k 4) j := by rw [e,hm];rfl
   refine ⟨⟨k + 1,by omega,fun i hi=>?_,by rw [ev];exact hB⟩,by show ps.length - (k + 1) < ps.length - k;omega,th [] 2,rfl,rfl,rfl,rfl,rfl,rfl,?_,?_⟩
   ·by_cases c : i = k
    ·subst c;exact ho
    ·exact hO i (by omega)
   ·and_intros<;>try first|exact trivial|exact rfl
    ·rw [ev];and_intros<;>try first|exact trivial|exact rfl
    ·exact (wrap_nat k (by omega)).symm
   ·and_intros<;>try first|exact trivial|exact rfl
    all_goals (rw [ev];and_intros<;>try first|exact trivial|exact rfl)
  have g : decide (gx ps k 0 + (j : Nat) < gx ps (0 + ((k : Nat) : Int).toNat) 1) = true := g
  rw [z] at g
  have g := of_decide_eq_true g
  have ej : IntKind.i64.wrap (gx ps k 0 + (j : Nat) - gx ps (0 + ((k : Nat) : Int).toNat) 0) = (j : Int) := by rw [z,wrapS _ ⟨by omega,by omega⟩];omega
  intro _
  refine call_pure [] (value_ok (gx ps (0 + ((k : Nat) : Int).toNat) 2) (gx ps (0 + ((k : Nat) : Int).toNat) 3) (gx ps (0 + ((k : Nat) : Int).toNat) 4) (j : Int) (by rw [z];exact g5) ⟨by omega,by omega⟩) rfl rfl rfl ?_ ?_ ?_
  ·and_intros<;>try first|exact trivial|exact rfl
  ·and_intros<;>try first|exact trivial|exact rfl
   exact ej.symm
  intro v hv _
  rw [z] at hv
  subst hv
  intro _
  refine rcoord_test _ _ _ ?_
  intro _;refine ⟨fun g=>?_,fun g=>?_⟩
  ·have g2 : (!decide (Cd (qv (gx ps k 2) (gx ps k 3) (gx ps k 4) j))) = true := g
   rw [Bool.not_eq_true'] at g2
   have g2 := of_decide_eq_false g2
   intro _
   refine ⟨[],.tup [.nils,.bool false],⟨1,1,[]⟩,rfl,rfl,rfl,rfl,?_,?_,no (fun h=>?_)⟩
   ·and_intros<;>try first|exact trivial|exact rfl
   ·and_intros<;>try first|exact trivial|exact rfl
   ·obtain ⟨r1,r2⟩ := raw_vk (ps := ps) ps.length k j (by omega) (by omega)
    have hc := h.2 ((vk ps k).length + j) r1
    unfold vals at hc
    rw [r2] at hc
    exact g2 hc
  have g2 : (!decide (Cd (qv (gx ps k 2) (gx ps k 3) (gx ps k 4) j))) = false := g
  rw [Bool.not_eq_false'] at g2
  have g2 := of_decide_eq_true g2
  have vb : ((vk ps k).length : Int)≤4001 := by
   have e : atO ps k = gx ps k 0 := g9.symm
   omega
  intro _;refine ⟨rfl,?_⟩
  intro _;refine ⟨fun g3=>by simp at g3,fun _=>?_⟩
  refine ⟨⟨rfl,show (vk ps k ++ mk (gx ps k 2) (gx ps k 3) (gx ps k 4) j).length + 1≤4611686018427387904 by rw [jl];omega,show ((vk ps k ++ mk (gx ps k 2) (gx ps k 3) (gx ps k 4) j).length + 1) * 8≤140737488355328 by rw [jl];omega⟩,?_⟩
  refine ⟨⟨j + 1,by omega,?_⟩,by show m - (j + 1) < m - j;omega,th [(1,some 4)] 3,rfl,rfl,rfl,rfl,rfl,rfl,?_,?_⟩
  ·intro i hi
   have e : vk ps k ++ mk (gx ps k 2) (gx ps k 3) (gx ps k 4) (j + 1) = (vk ps k ++ mk (gx ps k 2) (gx ps k 3) (gx ps k 4) j) ++ [qv (gx ps k 2) (gx ps k 3) (gx ps k 4) j] := by simp [mk]
   rw [e] at hi ⊢
   by_cases c : i < (vk ps k ++ mk (gx ps k 2) (gx ps k 3) (gx ps k 4) j).length
   ·rw [raw_left c];exact hB i c
   ·have e2 : i = (vk ps k ++ mk (gx ps k 2) (gx ps k 3) (gx ps k 4) j).length + 0 := by simp at hi c ⊢;omega
    rw [e2,raw_right]
    exact g2
  ·and_intros<;>try first|exact trivial|exact rfl
   ·show (vk ps k ++ mk (gx ps k 2) (gx ps k 3) (gx ps k 4) (j + 1)).length = (vk ps k ++ mk (gx ps k 2) (gx ps k 3) (gx ps k 4) j).length + 1
    simp [mk];omega
   ·show gx ps k 0 + ((j + 1 : Nat) : Int) = IntKind.i64.wrap (gx ps k 0 + (j : Nat) + 1)
    rw [wrapS _ ⟨by omega,by omega⟩];omega
  ·and_intros<;>try first|exact trivial|exact rfl
   show vk ps k ++ mk (gx ps k 2) (gx ps k 3) (gx ps k 4) (j + 1) = (vk ps k ++ mk (gx ps k 2) (gx ps k 3) (gx ps k 4) j) ++ [qv (gx ps k 2) (gx ps k 3) (gx ps k 4) j]
   simp [mk]
 have c : 0 < k := by
  have g : decide ((k : Int) > 0) = true := g
  have := of_decide_eq_true g
  omega
 have wk : IntKind.i64.wrap ((k : Int) - 1) = ((k - 1 : Nat) : Int) := by rw [IntKind.wrap_i64];omega
 have zk' : 0 + (IntKind.i64.wrap ((k : Int) - 1)).toNat = k - 1 := by rw [wk];omega
 intro _;refine ⟨show 0≤IntKind.i64.wrap ((k : Int) - 1)∧IntKind.i64.wrap ((k : Int) - 1) < (ps.length : Int) by rw [wk];omega,?_⟩
 intro _;refine ⟨show 0 + (IntKind.i64.wrap ((k : Int) - 1)).toNat < ps.length by rw [zk'];omega,?_⟩
 intro _;refine ⟨by kernel_rfl,?_⟩
 have ea : atO ps k = gx ps (k - 1) 1 := by unfold atO;rw [if_neg (by omega)]
 intro _;refine ⟨fun g=>?_,fun g=>?_⟩
 ·have g9 : (gx ps (0 + ((k : Nat) : Int).toNat) 0 != gx ps (0 + (IntKind.i64.wrap ((k : Int) - 1)).toNat) 1) = true := g
  rw [z,zk'] at g9
  have g9 := bne_iff_ne.1 g9
  intro _
  refine ⟨[],.tup [.nils,.bool false],⟨1,1,[]⟩,rfl,rfl,rfl,rfl,?_,?_,no (fun h=>g9 (by rw [(h.1 k (by omega)).1.1,ea]))⟩
  ·and_intros<;>try first|exact trivial|exact rfl
  ·and_intros<;>try first|exact trivial|exact rfl
 have g9 : (gx ps (0 + ((k : Nat) : Int).toNat) 0 != gx ps (0 + (IntKind.i64.wrap ((k : Int) - 1)).toNat) 1) = false := g
 rw [z,zk'] at g9
 have g9 := bne_eq_false_iff_eq.1 g9
 rw [← ea] at g9
 have ho : Ok1 ps k∧0≤gx ps k 0 := ⟨⟨g9,by omega,by omega,g5⟩,by omega⟩
 obtain ⟨m,hm⟩ : ∃ m,m = (gx ps k 1 - gx ps k 0).toNat := ⟨_,rfl⟩
 have k0 : 0≤gx ps 0 0 := by
  by_cases c : k = 0
  ·have := ho.2;rw [c] at this;exact this
  ·exact (hO 0 (by omega)).2
 intro _
 refine loop2 tt_ok [4,8] [1] 3 (fun j : { j : Nat // j≤m∧AllC (vk ps k ++ mk (gx ps k 2) (gx ps k 3) (gx ps k 4) j) }=>[(4,.grw 1 (vk ps k ++ mk (gx ps k 2) (gx ps k 3) (gx ps k 4) j.1).length),(8,.int .i64 (gx ps k 0 + (j.1 : Nat)))]) (fun j=>[(1,.arr [.int .i64] .grow (.ints (vk ps k ++ mk (gx ps k 2) (gx ps k 3) (gx ps k 4) j.1)))]) (fun j=>m - j.1) ⟨0,Nat.zero_le _,by simpa [mk] using hA⟩ ?_
 intro _
 refine ⟨⟨th [] 3,rfl,rfl,rfl,rfl,rfl,rfl,?_,?_⟩,?_⟩
 ·and_intros<;>try first|exact trivial|exact rfl
  ·show (vk ps k ++ mk (gx ps k 2) (gx ps k 3) (gx ps k 4) 0).length = (vk ps k).length
   simp [mk]
  ·show gx ps k 0 + ((0 : Nat) : Int) = gx ps (0 + ((k : Nat) : Int).toNat) 0
   rw [z];omega
 ·and_intros<;>try first|exact trivial|exact rfl
  show vk ps k ++ mk (gx ps k 2) (gx ps k 3) (gx ps k 4) 0 = vk ps k
  simp [mk]
 intro ⟨j,hj,hB⟩
 have hj : j≤m := hj
 have hB : AllC (vk ps k ++ mk (gx ps k 2) (gx ps k 3) (gx ps k 4) j) := hB
 have jl : (vk ps k ++ mk (gx ps k 2) (gx ps k 3) (gx ps k 4) j).length = (vk ps k).length + j := by rw [List.length_append,mk_len]
 intro _;refine ⟨fun g=>?_,fun g=>?_⟩
 rotate_left
 ·have g : decide (gx ps k 0 + (j : Nat) < gx ps (0 + ((k : Nat) : Int).toNat) 1) = false := g
  rw [z] at g
  have g := of_decide_eq_false g
  have e : j = m := by omega
  have ev : vk ps (k + 1) = vk ps k ++ mk (gx ps k 2) (gx ps k 3) (gx ps k 4) j := by rw [e,hm];rfl
  refine ⟨⟨k + 1,by omega,fun i hi=>?_,by rw [ev];exact hB⟩,by show ps.length - (k + 1) < ps.length - k;omega,th [] 2,rfl,rfl,rfl,rfl,rfl,rfl,?_,?_⟩
  ·by_cases c : i = k
   ·subst c;exact ho
   ·exact hO i (by omega)
  ·and_intros<;>try first|exact trivial|exact rfl
   ·rw [ev];and_intros<;>try first|exact trivial|exact rfl
   ·exact (wrap_nat k (by omega)).symm
  ·and_intros<;>try first|exact trivial|exact rfl
   all_goals (rw [ev];and_intros<;>try first|exact trivial|exact rfl)
 have g : decide (gx ps k 0 + (j : Nat) < gx ps (0 + ((k : Nat) : Int).toNat) 1) = true := g
 rw [z] at g
 have g := of_decide_eq_true g
 have ej : IntKind.i64.wrap (gx ps k 0 + (j : Nat) - gx ps (0 + ((k : Nat) : Int).toNat) 0) = (j : Int) := by rw [z,wrapS _ ⟨by omega,by omega⟩];omega
 intro _
 refine call_pure [] (value_ok (gx ps (0 + ((k : Nat) : Int).toNat) 2) (gx ps (0 + ((k : Nat) : Int).toNat) 3) (gx ps (0 + ((k : Nat) : Int).toNat) 4) (j : Int) (by rw [z];exact g5) ⟨by omega,by omega⟩) rfl rfl rfl ?_ ?_ ?_
 ·and_intros<;>try first|exact trivial|exact rfl
 ·and_intros<;>try first|exact trivial|exact rfl
  exact ej.symm
 intro v hv _
 rw [z] at hv
 subst hv
 intro _
 refine rcoord_test _ _ _ ?_
 intro _;refine ⟨fun g=>?_,fun g=>?_⟩
 ·have g2 : (!decide (Cd (qv (gx ps k 2) (gx ps k 3) (gx ps k 4) j))) = true := g
  rw [Bool.not_eq_true'] at g2
  have g2 := of_decide_eq_false g2
  intro _
  refine ⟨[],.tup [.nils,.bool false],⟨1,1,[]⟩,rfl,rfl,rfl,rfl,?_,?_,no (fun h=>?_)⟩
  ·and_intros<;>try first|exact trivial|exact rfl
  ·and_intros<;>try first|exact trivial|exact rfl
  ·obtain ⟨r1,r2⟩ := raw_vk (ps := ps) ps.length k j (by omega) (by omega)
   have hc := h.2 ((vk ps k).length + j) r1
   unfold vals at hc
   rw [r2] at hc
   exact g2 hc
 have g2 : (!decide (Cd (qv (gx ps k 2) (gx ps k 3) (gx ps k 4) j))) = false := g
 rw [Bool.not_eq_false'] at g2
 have g2 := of_decide_eq_true g2
 have vb : ((vk ps k).length : Int)≤4001 := by
  have e : atO ps k = gx ps k 0 := g9.symm
  omega
 intro _;refine ⟨rfl,?_⟩
 intro _;refine ⟨fun g3=>by simp at g3,fun _=>?_⟩
 refine ⟨⟨rfl,show (vk ps k ++ mk (gx ps k 2) (gx ps k 3) (gx ps k 4) j).length + 1≤4611686018427387904 by rw [jl];omega,show ((vk ps k ++ mk (gx ps k 2) (gx ps k 3) (gx ps k 4) j).length + 1) * 8≤140737488355328 by rw [jl];omega⟩,?_⟩
 refine ⟨⟨j + 1,by omega,?_⟩,by show m - (j + 1) < m - j;omega,th [(1,some 4)] 3,rfl,rfl,rfl,rfl,rfl,rfl,?_,?_⟩
 ·intro i hi
  have e : vk ps k ++ mk (gx ps k 2) (gx ps k 3) (gx ps k 4) (j + 1) = (vk ps k ++ mk (gx ps k 2) (gx ps k 3) (gx ps k 4) j) ++ [qv (gx ps k 2) (gx ps k 3) (gx ps k 4) j] := by simp [mk]
  rw [e] at hi ⊢
  by_cases c : i < (vk ps k ++ mk (gx ps k 2) (gx ps k 3) (gx ps k 4) j).length
  ·rw [raw_left c];exact hB i c
  ·have e2 : i = (vk ps k ++ mk (gx ps k 2) (gx ps k 3) (gx ps k 4) j).length + 0 := by simp at hi c ⊢;omega
   rw [e2,raw_right]
   exact g2
 ·and_intros<;>try first|exact trivial|exact rfl
  ·show (vk ps k ++ mk (gx ps k 2) (gx ps k 3) (gx ps k 4) (j + 1)).length = (vk ps k ++ mk (gx ps k 2) (gx ps k 3) (gx ps k 4) j).length + 1
   simp [mk];omega
  ·show gx ps k 0 + ((j + 1 : Nat) : Int) = IntKind.i64.wrap (gx ps k 0 + (j : Nat) + 1)
   rw [wrapS _ ⟨by omega,by omega⟩];omega
 ·and_intros<;>try first|exact trivial|exact rfl
  show vk ps k ++ mk (gx ps k 2) (gx ps k 3) (gx ps k 4) (j + 1) = (vk ps k ++ mk (gx ps k 2) (gx ps k 3) (gx ps k 4) j) ++ [qv (gx ps k 2) (gx ps k 3) (gx ps k 4) j]
  simp [mk]
theorem call_list {fid : FuncId} {args0 args : List V} {h0 : H} {nx fz : Nat} {hl : List (Nat × Ob)} {Q : V→H→Prop} {K : V→H→Prop} {β : Type} (A : List β→AC) (ks : List CK) (n0 : Nat) (U : List β→Int→Prop) (θ : Th)
  (hc : SemF Try.prog fid args0 h0 Q) (hfz : h0.fz = h0.nx) (hn0 : h0.nx = n0) (ho : okTh 0 h0.nx nx h0.nx θ = true) (hns : namesOk h0.nx h0.l = true) (hle : Nat.ble h0.nx nx = true) (hH : sameH θ hl h0.l) (ha : sameVs θ args0 args) (hnil : nilAC ks (A [])) (hks : cksEq ks ks = true) (hsm : ∀ ps,sameAC (A ps) (A ps))
  (hQ : ∀ v h',Q v h'→∃ ps e,U ps e∧((v = .tup [.grw n0 ps.length,.int .i64 e]∧h' = ⟨n0 + 1,n0,[(n0,.arr ks .grow (A ps))]⟩) ∨ (ps = []∧v = .tup [.nils,.int .i64 e]∧h' = ⟨n0,n0,[]⟩)))
  (hK : ∀ ps e,U ps e→K (.tup [.grw nx ps.length,.int .i64 e]) ⟨nx + 1,fz,(nx,.arr ks .grow (A ps)) :: hl⟩) : SemF Try.prog fid args ⟨nx,fz,hl⟩ K := by
 have b1 : ∀ n,Nat.beq n n = true := Nat.beq_refl
 have b2 : ∀ n,Nat.ble n n = true := fun n=>Nat.ble_eq_true_of_le (Nat.le_refl n)
 have b3 : ∀ n,Nat.ble n (n + 1) = true := fun n=>Nat.ble_eq_true_of_le (Nat.le_succ n)
 have b4 : ∀ n,Nat.ble (n + 1) (n + 1) = true := fun n=>b2 (n + 1)
 refine call_new θ hc hfz ho hns hle hH ha ?_
 intro v h' hv
 obtain ⟨ps,e,hU,⟨rfl,rfl⟩ | ⟨rfl,rfl,rfl⟩⟩ := hQ v h' hv
 ·refine ⟨[(nx,some n0)],nx + 1,[(nx,.arr ks .grow (A ps))],.tup [.grw nx ps.length,.int .i64 e],?_,b3 nx,?_,?_,?_,?_,?_,hK ps e hU⟩
  ·simp [okNew,Nat.blt,b2,hn0,noDup]
  ·simp [namesOk,Nat.blt,b4]
  ·simp [ownArrs,modeOwn,b2]
  ·simp [namesGe,namesGes,b2]
  ·simp [sameV,sameVs,When,nameOk,Go.Vm2.look,kindEq]
  ·unfold sameH
   refine ⟨?_,trivial⟩
   simp only [Go.Vm2.look,b1]
   unfold sameO
   simp [When,hks,modeLe,hsm]
 ·refine ⟨[(nx,none)],nx + 1,[(nx,.arr ks .grow (A []))],.tup [.grw nx 0,.int .i64 e],?_,b3 nx,?_,?_,?_,?_,?_,hK [] e hU⟩
  ·simp [okNew,Nat.blt,b2]
  ·simp [namesOk,Nat.blt,b4]
  ·simp [ownArrs,modeOwn,b2]
  ·simp [namesGe,namesGes,b2]
  ·simp [sameV,sameVs,When,nameNo,Go.Vm2.look,kindEq]
  ·unfold sameH
   refine ⟨?_,trivial⟩
   simp only [Go.Vm2.look,b1]
   exact hnil
theorem toT {p : Prop} {fid : FuncId} {args : List V} {h : H} (hc : SemF Try.prog fid args h (fun v _=>((p∧v = .bool true) ∨ (¬ p∧v = .bool false))∧nameless v = true)) : SemF Try.prog fid args h (fun v _=>(∃ b,(b = true ↔ p)∧v = .test b)∧nameless v = true) := by
 refine SemF.test (hc.mono fun v h' hv=>?_)
 rcases hv.1 with ⟨hp,rfl⟩ | ⟨hp,rfl⟩
 ·exact ⟨true,.inl rfl,⟨true,⟨fun _=>hp,fun _=>rfl⟩,rfl⟩,rfl⟩
 ·exact ⟨false,.inl rfl,⟨false,⟨fun q=>absurd q (by decide),fun q=>absurd q hp⟩,rfl⟩,rfl⟩
theorem rvalidp_ok (ps : Rws) (hb : gb ps) : SemF Try.prog 43 [.slc 0 5 0 ps.length] ⟨1,1,DP ps⟩ (fun v _=>(∃ b,(b = true ↔ Vd ps)∧v = .test b)∧nameless v = true) := by
 refine SemF.test ?_
 refine enter tt_ok Try.func43 (nt := 20) (cd := body Try.f43) rfl rfl rfl rfl ?_
 intro _
 refine call_new [(0,some 0)] (all_ok ps hb.1) rfl rfl rfl rfl ?_ ?_ ?_
 ·and_intros<;>try first|exact trivial|exact rfl
 ·and_intros<;>try first|exact trivial|exact rfl
 intro v h' hv
 have no : ¬ Vd ps→∃ b,(V.bool false = .bool b ∨ V.bool false = .test b)∧(∃ b',(b' = true ↔ Vd ps)∧V.test b = .test b')∧nameless (V.test b) = true := fun h=>⟨false,.inl rfl,⟨false,⟨fun q=>absurd q (by decide),fun q=>absurd q h⟩,rfl⟩,rfl⟩
 rcases hv with ⟨⟨hR,hC⟩,rfl,rfl⟩ | ⟨hn,rfl,rfl⟩
 rotate_left
 ·refine ⟨[],1,[],.tup [.nils,.bool false],rfl,rfl,rfl,rfl,rfl,?_,?_,?_⟩
  ·and_intros<;>try first|exact trivial|exact rfl
  ·and_intros<;>try first|exact trivial|exact rfl
  intro _
  exact no (fun h=>hn ⟨h.1.ro.1,h.2.1⟩)
 refine ⟨[(1,some 1)],2,[(1,.arr [.int .i64] .grow (.ints (vals ps)))],.tup [.grw 1 (vals ps).length,.test (decide (1≤(vals ps).length∧(vals ps).length≤4000))],rfl,rfl,rfl,rfl,rfl,?_,?_,?_⟩
 ·and_intros<;>try first|exact trivial|exact rfl
 ·and_intros<;>try first|exact trivial|exact rfl
 intro _;refine ⟨fun g=>?_,fun g=>?_⟩
 ·have g : (!decide (1≤(vals ps).length∧(vals ps).length≤4000)) = true := g
  rw [Bool.not_eq_true'] at g
  have g := of_decide_eq_false g
  intro _
  exact no (fun h=>g h.1.ro.2)
 have g : (!decide (1≤(vals ps).length∧(vals ps).length≤4000)) = false := g
 rw [Bool.not_eq_false'] at g
 have g := of_decide_eq_true g
 have hI := hR.inO g.1 g.2
 have h1 := hI.1.1
 have hO := hI.2.1
 have l1 : ((vals ps).length : Int) = atO ps ps.length - gx ps 0 0 := vk_len hO ps.length (Nat.le_refl _)
 have ab := at_bd hO (Nat.le_refl _) h1
 have hM : Mok (gx ps 0 0) (vals ps) := ⟨⟨g.1,g.2,hC⟩,hI.1.2,by omega⟩
 intro _;refine ⟨show (0 : Int)≤0∧(0 : Int) < (ps.length : Int) by omega,?_⟩
 intro _;refine ⟨show 0 + (0 : Int).toNat < ps.length by show 0 + 0 < ps.length;omega,?_⟩
 intro _
 refine call_new [(0,some 1)] (split_ok (gx ps 0 0) (vals ps) hM) rfl rfl rfl rfl ?_ ?_ ?_
 ·and_intros<;>try first|exact trivial|exact rfl
 ·and_intros<;>try first|exact trivial|exact rfl
 intro v h' hv
 obtain ⟨qs,hS,rfl,rfl⟩ := hv
 refine ⟨[(2,some 1)],3,[(2,.arr PK .grow (.recs qs))],.grw 2 qs.length,rfl,rfl,rfl,rfl,rfl,?_,?_,?_⟩
 ·and_intros<;>try first|exact trivial|exact rfl
 ·and_intros<;>try first|exact trivial|exact rfl
 have ql := hS.len
 intro _
 refine call_pure [(0,some 2),(1,some 0)] (same_ok qs ps qs.length ps.length (Nat.le_refl _) (Nat.le_refl _) (by omega) hb.1) rfl rfl rfl ?_ ?_ ?_
 ·and_intros<;>try first|exact trivial|exact rfl
 ·and_intros<;>try first|exact trivial|exact rfl
 intro v hv _
 subst hv
 intro _
 refine ⟨_,.inr rfl,⟨_,?_,rfl⟩,rfl⟩
 rw [decide_eq_true_eq,List.take_length,List.take_length]
 constructor
 ·exact fun e=>⟨hI,hC,qs,hS,e⟩
 ·rintro ⟨_,_,rs,hr,he⟩
  rw [hS.uniq hC g.2 hr];exact he
theorem rvalues_ok (ps : Rws) (hb : gb ps) : SemF Try.prog 32 [.slc 0 5 0 ps.length] ⟨1,1,DP ps⟩ (VlR ps) := by
 refine SemF.ret ?_
 refine enter tt_ok Try.func32 (nt := 17) (cd := body Try.f32) rfl rfl rfl rfl ?_
 intro _
 refine call_pure [(0,some 0)] (rvalidp_ok ps hb) rfl rfl rfl ?_ ?_ ?_
 ·and_intros<;>try first|exact trivial|exact rfl
 ·and_intros<;>try first|exact trivial|exact rfl
 intro v hv _
 obtain ⟨b,hb',rfl⟩ := hv
 intro _;refine ⟨fun g=>?_,fun g=>?_⟩
 ·have hV : ¬ Vd ps := fun h=>by
   have e := hb'.2 h
   subst e
   exact absurd (show (!true) = true from g) (by decide)
  intro _
  refine ⟨[],.tup [.nils,.int .i64 1],⟨1,1,[]⟩,rfl,rfl,rfl,rfl,?_,?_,.inr ⟨hV,rfl,rfl⟩⟩
  ·and_intros<;>try first|exact trivial|exact rfl
  ·and_intros<;>try first|exact trivial|exact rfl
 have hV : Vd ps := hb'.1 (by cases b with
  | true=>rfl
  | false=>exact absurd (show (!false) = false from g) (by decide))
 intro _
 refine call_new [(0,some 0)] (all_ok ps hb.1) rfl rfl rfl rfl ?_ ?_ ?_
 ·and_intros<;>try first|exact trivial|exact rfl
 ·and_intros<;>try first|exact trivial|exact rfl
 intro v h' hv
 rcases hv with ⟨_,rfl,rfl⟩ | ⟨hn,_⟩
 rotate_left
 ·exact absurd ⟨hV.1.ro.1,hV.2.1⟩ hn
 refine ⟨[(1,some 1)],2,[(1,.arr [.int .i64] .grow (.ints (vals ps)))],.tup [.grw 1 (vals ps).length,.test (decide (1≤(vals ps).length∧(vals ps).length≤4000))],rfl,rfl,rfl,rfl,rfl,?_,?_,?_⟩
 ·and_intros<;>try first|exact trivial|exact rfl
 ·and_intros<;>try first|exact trivial|exact rfl
 intro _
 refine ⟨[(1,some 1)],.tup [.grw 1 (vals ps).length,.int .i64 0],⟨2,1,[(1,.arr [.int .i64] .grow (.ints (vals ps)))]⟩,rfl,rfl,rfl,rfl,?_,?_,.inl ⟨hV,rfl,rfl⟩⟩
 ·and_intros<;>try first|exact trivial|exact rfl
 ·and_intros<;>try first|exact trivial|exact rfl
set_option maxHeartbeats 4000000 in
theorem ratf_ok (ps : Rws) (n : Int) (hb : gb ps) : SemF Try.prog 42 [.slc 0 5 0 ps.length,.int .i64 n] ⟨1,1,DP ps⟩ (fun v _=>AtR ps n v∧nameless v = true) := by
 refine enter tt_ok Try.func42 (nt := 46) (cd := body Try.f42) rfl rfl rfl rfl ?_
 intro _
 refine call_pure [(0,some 0)] (rvalidp_ok ps hb) rfl rfl rfl ?_ ?_ ?_
 ·and_intros<;>try first|exact trivial|exact rfl
 ·and_intros<;>try first|exact trivial|exact rfl
 intro v hv _
 obtain ⟨b,hb',rfl⟩ := hv
 intro _;refine ⟨fun g=>?_,fun g=>?_⟩
 rotate_left
 ·have hV : ¬ Vd ps := fun h=>by
   have e := hb'.2 h
   subst e
   exact absurd (show true = false from g) (by decide)
  intro _
  exact ⟨.inr ⟨fun h=>hV h.1,rfl⟩,rfl⟩
 have hV : Vd ps := hb'.1 g
 have hO := hV.1.2.1
 have h0 := hV.1.1.2
 have h1 := hV.1.1.1
 intro _
 refine loop2 tt_ok [7] [] 1 (fun k : { k : Nat // k≤ps.length∧(n < gx ps 0 0 ∨ atO ps k≤n) }=>[(7,.int .i64 (k.1 : Nat))]) (fun _=>[]) (fun k=>ps.length - k.1) ⟨0,Nat.zero_le _,by show n < gx ps 0 0 ∨ gx ps 0 0≤n;omega⟩ ?_
 intro _
 refine ⟨⟨th [] 1,rfl,rfl,rfl,rfl,rfl,rfl,?_,?_⟩,?_⟩
 ·and_intros<;>try first|exact trivial|exact rfl
 ·and_intros<;>try first|exact trivial|exact rfl
 intro ⟨k,hk,hm⟩
 have hk : k≤ps.length := hk
 intro _;refine ⟨fun g=>?_,fun g=>?_⟩
 rotate_left
 ·have g := of_decide_eq_false (show decide ((k : Int) < (ps.length : Int)) = false from g)
  have e : k = ps.length := by omega
  subst e
  have l1 : ((vals ps).length : Int) = atO ps ps.length - gx ps 0 0 := vk_len hO ps.length (Nat.le_refl _)
  intro _
  exact ⟨.inr ⟨fun h=>by have := h.2.1;have := h.2.2;omega,rfl⟩,rfl⟩
 have g := of_decide_eq_true (show decide ((k : Int) < (ps.length : Int)) = true from g)
 have z : 0 + ((k : Nat) : Int).toNat = k := by omega
 have ho := hO k (by omega)
 have o1 := ho.1;have o2 := ho.2.1;have o3 := ho.2.2.1
 have au := at_up h0 hO k hk
 have step : ¬ (gx ps k 0≤n∧n < gx ps k 1)→n < gx ps 0 0 ∨ atO ps (k + 1)≤n := fun q=>by
  show n < gx ps 0 0 ∨ gx ps k 1≤n
  omega
 intro _;refine ⟨show 0≤(k : Int)∧(k : Int) < (ps.length : Int) by omega,?_⟩
 intro _;refine ⟨show 0 + (k : Int).toNat < ps.length by omega,?_⟩
 intro _;refine ⟨fun g=>?_,fun g=>?_⟩
 rotate_left
 ·have g2 : decide (gx ps (0 + ((k : Nat) : Int).toNat) 0≤n) = false := g
  rw [z] at g2
  have g2 := of_decide_eq_false g2
  refine ⟨⟨k + 1,by omega,step (fun q=>g2 q.1)⟩,by show ps.length - (k + 1) < ps.length - k;omega,th [] 1,rfl,rfl,rfl,rfl,rfl,rfl,?_,?_⟩
  ·and_intros<;>try first|exact trivial|exact rfl
   exact (wrap_nat k (by omega)).symm
  ·and_intros<;>try first|exact trivial|exact rfl
 have g2 : decide (gx ps (0 + ((k : Nat) : Int).toNat) 0≤n) = true := g
 rw [z] at g2
 have g2 := of_decide_eq_true g2
 intro _;refine ⟨show 0≤(k : Int)∧(k : Int) < (ps.length : Int) by omega,?_⟩
 intro _;refine ⟨show 0 + (k : Int).toNat < ps.length by omega,?_⟩
 intro _;refine ⟨fun g=>?_,fun g=>?_⟩
 rotate_left
 ·have g3 : decide (n < gx ps (0 + ((k : Nat) : Int).toNat) 1) = false := g
  rw [z] at g3
  have g3 := of_decide_eq_false g3
  refine ⟨⟨k + 1,by omega,step (fun q=>g3 q.2)⟩,by show ps.length - (k + 1) < ps.length - k;omega,th [] 1,rfl,rfl,rfl,rfl,rfl,rfl,?_,?_⟩
  ·and_intros<;>try first|exact trivial|exact rfl
   exact (wrap_nat k (by omega)).symm
  ·and_intros<;>try first|exact trivial|exact rfl
 have g3 : decide (n < gx ps (0 + ((k : Nat) : Int).toNat) 1) = true := g
 rw [z] at g3
 have g3 := of_decide_eq_true g3
 have ew : IntKind.i64.wrap (n - gx ps (0 + ((k : Nat) : Int).toNat) 0) = n - gx ps k 0 := by rw [z];exact wrapS _ ⟨by omega,by omega⟩
 intro _;refine ⟨show 0≤(k : Int)∧(k : Int) < (ps.length : Int) by omega,?_⟩
 intro _;refine ⟨show 0 + (k : Int).toNat < ps.length by omega,?_⟩
 intro _;refine ⟨show 0≤(k : Int)∧(k : Int) < (ps.length : Int) by omega,?_⟩
 intro _;refine ⟨show 0 + (k : Int).toNat < ps.length by omega,?_⟩
 intro _;refine Or.inl ?_
 intro _
 refine call_pure [] (value_ok (gx ps (0 + ((k : Nat) : Int).toNat) 2) (gx ps (0 + ((k : Nat) : Int).toNat) 3) (gx ps (0 + ((k : Nat) : Int).toNat) 4) (n - gx ps k 0) (by rw [z];exact ho.2.2.2) ⟨by omega,by omega⟩) rfl rfl rfl ?_ ?_ ?_
 ·and_intros<;>try first|exact trivial|exact rfl
 ·and_intros<;>try first|exact trivial|exact rfl
  exact ew.symm
 intro v hv _
 rw [z] at hv
 subst hv
 have vl := vk_len hO k hk
 have l1 : ((vals ps).length : Int) = atO ps ps.length - gx ps 0 0 := vk_len hO ps.length (Nat.le_refl _)
 obtain ⟨j,hj⟩ : ∃ j : Nat,(j : Int) = n - gx ps k 0 := ⟨(n - gx ps k 0).toNat,by omega⟩
 obtain ⟨r1,r2⟩ := raw_vk (ps := ps) ps.length k j (by omega) (by omega)
 have ei : (n - gx ps 0 0).toNat = (vk ps k).length + j := by omega
 have r1' : (vk ps k).length + j < (vals ps).length := r1
 intro _;refine ⟨by kernel_rfl,?_⟩
 intro _
 refine ⟨.inl ⟨hV,by omega,by omega,?_⟩,rfl⟩
 rw [ei]
 show V.tup [.int .i64 (qv (gx ps k 2) (gx ps k 3) (gx ps k 4) (n - gx ps k 0)),.int .i64 0] = .tup [.int .i64 (raw (vk ps ps.length) ((vk ps k).length + j)),.int .i64 0]
 rw [r2,hj]
def BoR (a b : Rws) (v : V) (h' : H) : Prop :=
 (JOk a b∧v = .tup [.grw 2 (vals a).length,.grw 3 (vals b).length,.bool true]∧h' = ⟨4,2,[(3,.arr [.int .i64] .grow (.ints (vals b))),(2,.arr [.int .i64] .grow (.ints (vals a)))]⟩) ∨ (¬ JOk a b∧v = .tup [.nils,.nils,.bool false]∧h' = ⟨2,2,[]⟩)
def okl (op : Int→Int→Int) (a b : List Int) : Nat→List Int
 | 0=>[]
 | k + 1=>okl op a b k ++ [op (raw a k) (raw b k)]
theorem in_test (x lo hi : Int) (h : H) (K : V→H→Prop) (hK : K (.test (decide (lo≤x∧x≤hi))) h) : SemF Try.prog 31 [.int .i64 x,.int .i64 lo,.int .i64 hi] h K := by
 refine SemF.test ?_
 refine enter tt_ok Try.func31 (nt := 15) (cd := body Try.f31) rfl rfl rfl rfl ?_
 intro _;refine ⟨fun g=>?_,fun g=>?_⟩
 ·have g := of_decide_eq_true (show decide (lo≤x) = true from g)
  intro _
  refine ⟨_,.inr rfl,?_⟩
  have : decide (lo≤x∧x≤hi) = decide (x≤hi) := by
   by_cases e : x≤hi
   ·rw [decide_eq_true e,decide_eq_true ⟨g,e⟩]
   ·rw [decide_eq_false e,decide_eq_false (fun m=>e m.2)]
  rw [← this];exact hK
 ·have g := of_decide_eq_false (show decide (lo≤x) = false from g)
  intro _
  refine ⟨false,.inl rfl,?_⟩
  have : decide (lo≤x∧x≤hi) = false := decide_eq_false (fun m=>g m.1)
  rw [← this];exact hK
theorem rlen_test (n : Int) (h : H) (K : V→H→Prop) (hK : K (.test (decide (Ln_ n))) h) : SemF Try.prog 28 [.int .i64 n] h K := by
 refine enter tt_ok Try.func28 (nt := 5) (cd := body Try.f28) rfl rfl rfl rfl ?_
 intro _
 refine in_test _ _ _ _ _ ?_
 intro _
 exact hK
theorem rid_test (n : Int) (h : H) (K : V→H→Prop) (hK : K (.test (decide (Id_ n))) h) : SemF Try.prog 30 [.int .i64 n] h K := by
 refine enter tt_ok Try.func30 (nt := 5) (cd := body Try.f30) rfl rfl rfl rfl ?_
 intro _
 refine in_test _ _ _ _ _ ?_
 intro _
 exact hK
theorem racc_ok (a : Ac) : SemF Try.prog 36 [AV_ a] ⟨0,0,[]⟩ (fun v _=>v = .test (decide (Aok a))∧nameless v = true) := by
 refine SemF.test ?_
 have no : ¬ Aok a→∃ b,(V.bool false = .bool b ∨ V.bool false = .test b)∧V.test b = .test (decide (Aok a))∧nameless (V.test b) = true := fun h=>⟨false,.inl rfl,by rw [decide_eq_false h],rfl⟩
 refine enter tt_ok Try.func36 (nt := 27) (cd := body Try.f36) rfl rfl rfl rfl ?_
 intro _
 refine rid_test _ _ _ ?_
 intro _
 refine in_test _ _ _ _ _ ?_
 intro _
 refine in_test _ _ _ _ _ ?_
 intro _;refine ⟨fun g=>?_,fun g=>?_⟩
 rotate_left
 ·have g := of_decide_eq_false (show decide (Id_ a.nd) = false from g)
  intro _
  exact no (fun h=>g h.1)
 have g1 := of_decide_eq_true (show decide (Id_ a.nd) = true from g)
 intro _;refine ⟨fun g=>?_,fun g=>?_⟩
 rotate_left
 ·have g := of_decide_eq_false (show decide (0≤a.ch∧a.ch≤1000000000) = false from g)
  intro _
  exact no (fun h=>g h.2.1)
 have g2 := of_decide_eq_true (show decide (0≤a.ch∧a.ch≤1000000000) = true from g)
 intro _;refine ⟨fun g=>?_,fun g=>?_⟩
 rotate_left
 ·have g := of_decide_eq_false (show decide (0≤a.cg∧a.cg≤1000000000) = false from g)
  intro _
  exact no (fun h=>g h.2.2.1)
 have g3 := of_decide_eq_true (show decide (0≤a.cg∧a.cg≤1000000000) = true from g)
 intro _
 refine in_test _ _ _ _ _ ?_
 intro _
 refine ⟨_,.inr rfl,?_,rfl⟩
 show V.test (decide (-1000000≤a.la∧a.la≤1000000)) = .test (decide (Aok a))
 by_cases e : -1000000≤a.la∧a.la≤1000000
 ·rw [decide_eq_true e,decide_eq_true (show Aok a from ⟨g1,g2,g3,e⟩)]
 ·rw [decide_eq_false e,decide_eq_false (fun h : Aok a=>e h.2.2.2)]
theorem rans_ok (nd w k hh : Int) : SemF Try.prog 37 [XV nd w k hh] ⟨0,0,[]⟩ (fun v _=>v = .test (decide (Xok nd w k hh))∧nameless v = true) := by
 refine SemF.test ?_
 have no : ¬ Xok nd w k hh→∃ b,(V.bool false = .bool b ∨ V.bool false = .test b)∧V.test b = .test (decide (Xok nd w k hh))∧nameless (V.test b) = true := fun h=>⟨false,.inl rfl,by rw [decide_eq_false h],rfl⟩
 refine enter tt_ok Try.func37 (nt := 39) (cd := body Try.f37) rfl rfl rfl rfl ?_
 intro _
 refine rid_test _ _ _ ?_
 intro _
 refine rlen_test _ _ _ ?_
 intro _
 refine in_test _ _ _ _ _ ?_
 intro _
 refine rlen_test _ _ _ ?_
 intro _;refine ⟨fun g=>?_,fun g=>?_⟩
 rotate_left
 ·have g := of_decide_eq_false (show decide (Id_ nd) = false from g)
  intro _
  exact no (fun h=>g h.1)
 have g1 := of_decide_eq_true (show decide (Id_ nd) = true from g)
 intro _;refine ⟨fun g=>?_,fun g=>?_⟩
 rotate_left
 ·have g := of_decide_eq_false (show decide (Ln_ w) = false from g)
  intro _
  exact no (fun h=>g h.2.1)
 have g2 := of_decide_eq_true (show decide (Ln_ w) = true from g)
 intro _;refine ⟨fun g=>?_,fun g=>?_⟩
 rotate_left
 ·have g := of_decide_eq_false (show decide (1≤k∧k≤3) = false from g)
  intro _
  exact no (fun h=>g (by rcases h.2.2 with q | q <;> omega))
 have g3 := of_decide_eq_true (show decide (1≤k∧k≤3) = true from g)
 intro _;refine ⟨fun g=>?_,fun g=>?_⟩
 rotate_left
 ·have g := of_decide_eq_false (show decide (Ln_ hh) = false from g)
  intro _
  exact no (fun h=>g h.ln)
 have g4 := of_decide_eq_true (show decide (Ln_ hh) = true from g)
 intro _;refine ⟨fun g=>?_,fun g=>?_⟩
 ·have gk : k = 1 := by simpa using (show (k == 1) = true from g)
  intro _
  exact ⟨true,.inl rfl,by rw [decide_eq_true (show Xok nd w k hh from ⟨g1,g2,.inl ⟨gk,g4⟩⟩)],rfl⟩
 have gk : k ≠ 1 := by simpa using (show (k == 1) = false from g)
 intro _
 refine ⟨_,.inr rfl,?_,rfl⟩
 show V.test (hh == 0) = .test (decide (Xok nd w k hh))
 by_cases e : hh = 0
 ·rw [decide_eq_true (show Xok nd w k hh from ⟨g1,g2,.inr ⟨by omega,e⟩⟩),e];rfl
 ·rw [decide_eq_false (fun h : Xok nd w k hh=>h.2.2.elim (fun q=>gk q.1) (fun q=>e q.2)),show (hh == 0) = false from beq_eq_false_iff_ne.2 e]
set_option maxHeartbeats 4000000 in
theorem rcvalid_ok (nd mo : Int) (ps : Rws) (hb : gb ps) : SemF Try.prog 15 [CV nd mo ps 0] ⟨1,1,DP ps⟩ (fun v _=>((Wc nd mo ps∧v = .bool true) ∨ (¬ Wc nd mo ps∧v = .bool false))∧nameless v = true) := by
 refine enter tt_ok Try.func15 (nt := 44) (cd := body Try.f15) rfl rfl rfl rfl ?_
 have no : ¬ Wc nd mo ps→((Wc nd mo ps∧V.bool false = .bool true) ∨ (¬ Wc nd mo ps∧V.bool false = .bool false))∧nameless (V.bool false) = true := fun h=>⟨.inr ⟨h,rfl⟩,rfl⟩
 intro _
 refine rid_test _ _ _ ?_
 intro _
 refine in_test _ _ _ _ _ ?_
 intro _
 refine call_new [(0,some 0)] (rvalues_ok ps hb) rfl rfl rfl rfl ?_ ?_ ?_
 ·and_intros<;>try first|exact trivial|exact rfl
 ·and_intros<;>try first|exact trivial|exact rfl
 intro v h' hv
 rcases hv with ⟨hV,rfl,rfl⟩ | ⟨hV,rfl,rfl⟩
 rotate_left
 ·have nw : ¬ Wc nd mo ps := fun h=>hV h.2.2.1
  refine ⟨[],2,[],.tup [.nils,.int .i64 1],rfl,rfl,rfl,rfl,rfl,?_,?_,?_⟩
  ·and_intros<;>try first|exact trivial|exact rfl
  ·and_intros<;>try first|exact trivial|exact rfl
  intro _;refine ⟨fun g=>?_,fun g=>?_⟩
  ·intro _
   exact no nw
  intro _;refine ⟨fun g=>?_,fun g=>?_⟩
  ·intro _
   exact no nw
  intro _;refine ⟨fun g=>?_,fun g=>?_⟩
  rotate_left
  ·exact absurd (show ((1 : Int) != 0) = false from g) (by decide)
  intro _
  exact no nw
 refine ⟨[(2,some 1)],3,[(2,.arr [.int .i64] .grow (.ints (vals ps)))],.tup [.grw 2 (vals ps).length,.int .i64 0],rfl,rfl,rfl,rfl,rfl,?_,?_,?_⟩
 ·and_intros<;>try first|exact trivial|exact rfl
 ·and_intros<;>try first|exact trivial|exact rfl
 intro _;refine ⟨fun g=>?_,fun g=>?_⟩
 ·have g1 : (!decide (Id_ nd)) = true := g
  rw [Bool.not_eq_true'] at g1
  have g1 := of_decide_eq_false g1
  intro _
  exact no (fun h=>g1 h.1)
 have g1 : (!decide (Id_ nd)) = false := g
 rw [Bool.not_eq_false'] at g1
 have g1 := of_decide_eq_true g1
 intro _;refine ⟨fun g=>?_,fun g=>?_⟩
 ·have g2 : (!decide (0≤mo∧mo≤100)) = true := g
  rw [Bool.not_eq_true'] at g2
  have g2 := of_decide_eq_false g2
  intro _
  exact no (fun h=>g2 h.2.1)
 have g2 : (!decide (0≤mo∧mo≤100)) = false := g
 rw [Bool.not_eq_false'] at g2
 have g2 := of_decide_eq_true g2
 intro _;refine ⟨fun g=>?_,fun g=>?_⟩
 ·exact absurd (show ((0 : Int) != 0) = true from g) (by decide)
 have h2 := hV.len.2.1
 intro _
 refine loop2 tt_ok [7] [] 3 (fun k : { k : Nat // k≤(vals ps).length∧∀ i,i < k→Ln_ (raw (vals ps) i) }=>[(7,.int .i64 (k.1 : Nat))]) (fun _=>[]) (fun k=>(vals ps).length - k.1) ⟨0,Nat.zero_le _,fun i h=>by omega⟩ ?_
 intro _
 refine ⟨⟨th [] 3,rfl,rfl,rfl,rfl,rfl,rfl,?_,?_⟩,?_⟩
 ·and_intros<;>try first|exact trivial|exact rfl
 ·and_intros<;>try first|exact trivial|exact rfl
 intro ⟨k,hk,hm⟩
 have hk : k≤(vals ps).length := hk
 intro _;refine ⟨fun g=>?_,fun g=>?_⟩
 rotate_left
 ·have g := of_decide_eq_false (show decide ((k : Int) < ((vals ps).length : Int)) = false from g)
  have e : k = (vals ps).length := by omega
  subst e
  intro _
  exact ⟨.inl ⟨⟨g1,g2,hV,hm⟩,rfl⟩,rfl⟩
 have g := of_decide_eq_true (show decide ((k : Int) < ((vals ps).length : Int)) = true from g)
 have z : ((k : Nat) : Int).toNat = k := by omega
 intro _;refine ⟨show 0≤(k : Int)∧(k : Int) < ((vals ps).length : Int) by omega,?_⟩
 intro _;refine ⟨show (k : Int).toNat < (vals ps).length by omega,?_⟩
 intro _
 refine rlen_test _ _ _ ?_
 intro _;refine ⟨fun g=>?_,fun g=>?_⟩
 ·have g3 : (!decide (Ln_ (raw (vals ps) ((k : Nat) : Int).toNat))) = true := g
  rw [Bool.not_eq_true',z] at g3
  have g3 := of_decide_eq_false g3
  intro _
  exact no (fun h=>g3 (h.2.2.2 k (by omega)))
 have g3 : (!decide (Ln_ (raw (vals ps) ((k : Nat) : Int).toNat))) = false := g
 rw [Bool.not_eq_false',z] at g3
 have g3 := of_decide_eq_true g3
 refine ⟨⟨k + 1,by omega,fun i hi=>?_⟩,by show (vals ps).length - (k + 1) < (vals ps).length - k;omega,th [] 3,rfl,rfl,rfl,rfl,rfl,rfl,?_,?_⟩
 ·by_cases e : i = k
  ·subst e;exact g3
  ·exact hm i (by omega)
 ·and_intros<;>try first|exact trivial|exact rfl
  exact (wrap_nat k (by omega)).symm
 ·and_intros<;>try first|exact trivial|exact rfl
theorem atR_uniq {ps : Rws} {n : Int} {v w : V} (h : AtR ps n v) (k : AtR ps n w) : v = w := by
 rcases h with ⟨h1,h2,h3,rfl⟩ | ⟨h1,rfl⟩ <;> rcases k with ⟨k1,k2,k3,rfl⟩ | ⟨k1,rfl⟩
 ·rfl
 ·exact absurd ⟨h1,h2,h3⟩ k1
 ·exact absurd ⟨k1,k2,k3⟩ h1
 ·rfl
theorem Vd.last {ps : Rws} (h : Vd ps) : gx ps (ps.length - 1) 1 = gx ps 0 0 + ((vals ps).length : Int) := by
 have p1 := h.1.1.1
 have l1 : ((vals ps).length : Int) = atO ps ps.length - gx ps 0 0 := vk_len h.1.2.1 ps.length (Nat.le_refl _)
 unfold atO at l1
 rw [if_neg (by omega)] at l1
 omega
set_option maxHeartbeats 4000000 in
theorem rprom_ok (nd mo : Int) (ps : Rws) (w : Int) (hb : gb ps) (hW : Wc nd mo ps) (hw : Ln_ w) : SemF Try.prog 29 [CV nd mo ps 0,.int .i64 w] ⟨1,1,DP ps⟩ (fun v _=>v = .int .i64 (pr (vals ps) (gx ps 0 0) w)∧nameless v = true) := by
 have hV := hW.2.2.1
 have h1 := hW.v.1.1;have h2 := hW.v.1.2;have f1 := hW.v.2.1;have f2 := hW.v.2.2
 have p1 : 1≤ps.length := hV.1.1.1
 have w1 := hw.1;have w2 := hw.2
 have pl : ps.length≤4001 := by
  have u1 := at_up hV.1.1.2 hV.1.2.1 ps.length (Nat.le_refl _)
  have u2 := at_bd hV.1.2.1 (Nat.le_refl _) p1
  omega
 have eL : IntKind.i64.wrap ((ps.length : Int) - 1) = ((ps.length - 1 : Nat) : Int) := by rw [wrapS _ ⟨by omega,by omega⟩];omega
 have z : 0 + (((ps.length - 1 : Nat) : Int)).toNat = ps.length - 1 := by omega
 have hl := hV.last
 refine enter tt_ok Try.func29 (nt := 37) (cd := body Try.f29) rfl rfl rfl rfl ?_
 intro _;refine ⟨show (0 : Int)≤0∧(0 : Int) < (ps.length : Int) by omega,?_⟩
 intro _;refine ⟨show 0 + (0 : Int).toNat < ps.length by show 0 + 0 < ps.length;omega,?_⟩
 intro _;refine ⟨show 0≤IntKind.i64.wrap ((ps.length : Int) - 1)∧IntKind.i64.wrap ((ps.length : Int) - 1) < (ps.length : Int) by rw [eL];omega,?_⟩
 intro _;refine ⟨show 0 + (IntKind.i64.wrap ((ps.length : Int) - 1)).toNat < ps.length by rw [eL];omega,?_⟩
 intro _
 have eB : IntKind.i64.wrap (gx ps (0 + (IntKind.i64.wrap ((ps.length : Int) - 1)).toNat) 1 - 1) = gx ps 0 0 + ((vals ps).length : Int) - 1 := by rw [eL,z,hl];exact wrapS _ ⟨by omega,by omega⟩
 have eW : min (max w (gx ps 0 0)) (IntKind.i64.wrap (gx ps (0 + (IntKind.i64.wrap ((ps.length : Int) - 1)).toNat) 1 - 1)) = min (max w (gx ps 0 0)) (gx ps 0 0 + ((vals ps).length : Int) - 1) := by rw [eB]
 refine call_pure [(0,some 0)] (ratf_ok ps (min (max w (gx ps 0 0)) (gx ps 0 0 + ((vals ps).length : Int) - 1)) hb) rfl rfl rfl ?_ ?_ ?_
 ·and_intros<;>try first|exact trivial|exact rfl
 ·and_intros<;>try first|exact trivial|exact rfl
  exact eW.symm
 intro v hv _
 have a1 : AtR ps (min (max w (gx ps 0 0)) (gx ps 0 0 + ((vals ps).length : Int) - 1)) (.tup [.int .i64 (pr (vals ps) (gx ps 0 0) w),.int .i64 0]) := by
  refine .inl ⟨hV,by omega,by omega,?_⟩
  have e : (min (max w (gx ps 0 0)) (gx ps 0 0 + ((vals ps).length : Int) - 1) - gx ps 0 0).toNat = (max 0 (min (w - gx ps 0 0) (((vals ps).length : Int) - 1))).toNat := by omega
  rw [e];rfl
 have hv := atR_uniq hv a1
 subst hv
 intro _
 exact ⟨rfl,rfl⟩
theorem rpromised_ok (nd mo : Int) (ps : Rws) (w : Int) (hb : gb ps) : SemF Try.prog 13 [CV nd mo ps 0,.int .i64 w] ⟨1,1,DP ps⟩ (fun v _=>PdR nd mo ps w v∧nameless v = true) := by
 refine enter tt_ok Try.func13 (nt := 21) (cd := body Try.f13) rfl rfl rfl rfl ?_
 intro _
 refine call_pure [(0,some 0)] (rcvalid_ok nd mo ps hb) rfl rfl rfl ?_ ?_ ?_
 ·and_intros<;>try first|exact trivial|exact rfl
 ·and_intros<;>try first|exact trivial|exact rfl
 intro v hv _
 intro _
 refine rlen_test _ _ _ ?_
 rcases hv with ⟨hW,rfl⟩ | ⟨hW,rfl⟩
 rotate_left
 ·intro _
  exact ⟨.inr ⟨fun h=>hW h.1,rfl⟩,rfl⟩
 intro _;refine ⟨fun g=>?_,fun g=>?_⟩
 ·have g1 : (!decide (Ln_ w)) = true := g
  rw [Bool.not_eq_true'] at g1
  have g1 := of_decide_eq_false g1
  intro _
  exact ⟨.inr ⟨fun h=>g1 h.2,rfl⟩,rfl⟩
 have g1 : (!decide (Ln_ w)) = false := g
 rw [Bool.not_eq_false'] at g1
 have g1 := of_decide_eq_true g1
 intro _
 refine call_pure [(0,some 0)] (rprom_ok nd mo ps w hb hW g1) rfl rfl rfl ?_ ?_ ?_
 ·and_intros<;>try first|exact trivial|exact rfl
 ·and_intros<;>try first|exact trivial|exact rfl
 intro v hv _
 subst hv
 intro _
 exact ⟨.inl ⟨hW,g1,rfl⟩,rfl⟩
theorem rmore_ok (n : Int) : SemF Try.prog 46 [.int .i64 n] ⟨0,0,[]⟩ (fun v _=>v = .int .i64 (min (IntKind.i64.wrap (n + 1)) 1000000000)∧nameless v = true) := by
 refine enter tt_ok Try.func46 (nt := 6) (cd := body Try.f46) rfl rfl rfl rfl ?_
 intro _
 exact ⟨rfl,rfl⟩
set_option maxHeartbeats 8000000 in
theorem rjudgeA_ok (nd mo : Int) (ps : Rws) (a : Ac) (xn w k hh : Int) (hb : gb ps) (hW : Wc nd mo ps) (hA : Aok a) (hX : Xok xn w k hh) : SemF Try.prog 38 [CV nd mo ps 0,AV_ a,XV xn w k hh] ⟨1,1,DP ps⟩ (fun v _=>v = AV_ (jd k hh (pr (vals ps) (gx ps 0 0) w) mo a)∧nameless v = true) := by
 have hp := hW.pr w
 obtain ⟨i1,⟨c1,c2⟩,⟨d1,d2⟩,l1,l2⟩ := hA
 have h1 := hX.ln.1;have h2 := hX.ln.2;have p1 := hp.1;have p2 := hp.2
 have eD : IntKind.i64.wrap (hh - pr (vals ps) (gx ps 0 0) w) = hh - pr (vals ps) (gx ps 0 0) w := wrapS _ ⟨by omega,by omega⟩
 have eC : IntKind.i64.wrap (a.ch + 1) = a.ch + 1 := wrapS _ ⟨by omega,by omega⟩
 have eG : IntKind.i64.wrap (a.cg + 1) = a.cg + 1 := wrapS _ ⟨by omega,by omega⟩
 refine enter tt_ok Try.func38 (nt := 51) (cd := body Try.f38) rfl rfl rfl rfl ?_
 intro _;refine ⟨fun g=>?_,fun g=>?_⟩
 ·have g : a.fr = true := g
  intro _
  have e : jd k hh (pr (vals ps) (gx ps 0 0) w) mo a = a := by unfold jd;rw [if_pos g]
  rw [e]
  exact ⟨rfl,rfl⟩
 have gf : a.fr = false := g
 intro _;refine ⟨fun g=>?_,fun g=>?_⟩
 ·have gk : k = 2 := by simpa using (show (k == 2) = true from g)
  intro _
  refine call_pure [] (rmore_ok a.ch) rfl rfl rfl ?_ ?_ ?_
  ·and_intros<;>try first|exact trivial|exact rfl
  ·and_intros<;>try first|exact trivial|exact rfl
  intro v hv _
  subst hv
  intro _;refine ⟨fun g=>?_,fun g=>?_⟩
  ·have g : (k == 1) = true := g
   rw [gk] at g
   exact absurd g (by decide)
  intro _
  refine ⟨?_,rfl⟩
  rw [jd_eq (ch := min (IntKind.i64.wrap (a.ch + 1)) 1000000000) (cg := a.cg) (la := a.la) gf (by rw [if_pos (.inl gk),eC]) (by rw [if_neg (fun q=>by omega)]) (by rw [if_neg (fun q=>by omega)])]
 have gk2 : k ≠ 2 := by simpa using (show (k == 2) = false from g)
 intro _;refine ⟨fun g=>?_,fun g=>?_⟩
 rotate_left
 ·have gk : k ≠ 1 := by simpa using (show (k == 1) = false from g)
  intro _
  refine ⟨?_,rfl⟩
  rw [jd_eq (ch := a.ch) (cg := a.cg) (la := a.la) gf (by rw [if_neg (fun q=>q.elim gk2 (fun q=>gk q.1))]) (by rw [if_neg (fun q=>gk q.1)]) (by rw [if_neg (fun q=>gk q.1)])]
 have gk : k = 1 := by simpa using (show (k == 1) = true from g)
 intro _;refine Or.inl ?_
 intro _
 refine call_pure [(0,some 0)] (rprom_ok nd mo ps w hb hW hX.2.1) rfl rfl rfl ?_ ?_ ?_
 ·and_intros<;>try first|exact trivial|exact rfl
 ·and_intros<;>try first|exact trivial|exact rfl
 intro v hv _
 subst hv
 intro _;refine ⟨by kernel_rfl,?_⟩
 intro _;refine ⟨fun g=>?_,fun g=>?_⟩
 ·have gz : (IntKind.i64.wrap (hh - pr (vals ps) (gx ps 0 0) w) != 0) = true := g
  rw [eD] at gz
  have gz := bne_iff_ne.1 gz
  intro _
  refine call_pure [] (rmore_ok a.ch) rfl rfl rfl ?_ ?_ ?_
  ·and_intros<;>try first|exact trivial|exact rfl
  ·and_intros<;>try first|exact trivial|exact rfl
  intro v hv _
  subst hv
  intro _;refine ⟨fun g=>?_,fun g=>?_⟩
  ·have gd : (IntKind.i64.wrap (hh - pr (vals ps) (gx ps 0 0) w) != a.la) = true := g
   rw [eD] at gd
   have gd := bne_iff_ne.1 gd
   intro _
   refine call_pure [] (rmore_ok a.cg) rfl rfl rfl ?_ ?_ ?_
   ·and_intros<;>try first|exact trivial|exact rfl
   ·and_intros<;>try first|exact trivial|exact rfl
   intro v hv _
   subst hv
   intro _
   refine ⟨?_,rfl⟩
   rw [jd_eq (ch := min (IntKind.i64.wrap (a.ch + 1)) 1000000000) (cg := min (IntKind.i64.wrap (a.cg + 1)) 1000000000) (la := IntKind.i64.wrap (hh - pr (vals ps) (gx ps 0 0) w)) gf (by rw [if_pos (.inr ⟨gk,gz⟩),eC]) (by rw [if_pos ⟨gk,gd⟩,eG]) (by rw [if_pos ⟨gk,gd⟩,eD])]
  have gd : (IntKind.i64.wrap (hh - pr (vals ps) (gx ps 0 0) w) != a.la) = false := g
  rw [eD] at gd
  have gd := bne_eq_false_iff_eq.1 gd
  intro _
  refine ⟨?_,rfl⟩
  rw [jd_eq (ch := min (IntKind.i64.wrap (a.ch + 1)) 1000000000) (cg := a.cg) (la := a.la) gf (by rw [if_pos (.inr ⟨gk,gz⟩),eC]) (by rw [if_neg (fun q=>q.2 gd)]) (by rw [if_neg (fun q=>q.2 gd)])]
 have gz : (IntKind.i64.wrap (hh - pr (vals ps) (gx ps 0 0) w) != 0) = false := g
 rw [eD] at gz
 have gz := bne_eq_false_iff_eq.1 gz
 intro _;refine ⟨fun g=>?_,fun g=>?_⟩
 ·have gd : (IntKind.i64.wrap (hh - pr (vals ps) (gx ps 0 0) w) != a.la) = true := g
  rw [eD] at gd
  have gd := bne_iff_ne.1 gd
  intro _
  refine call_pure [] (rmore_ok a.cg) rfl rfl rfl ?_ ?_ ?_
  ·and_intros<;>try first|exact trivial|exact rfl
  ·and_intros<;>try first|exact trivial|exact rfl
  intro v hv _
  subst hv
  intro _
  refine ⟨?_,rfl⟩
  rw [jd_eq (ch := a.ch) (cg := min (IntKind.i64.wrap (a.cg + 1)) 1000000000) (la := IntKind.i64.wrap (hh - pr (vals ps) (gx ps 0 0) w)) gf (by rw [if_neg (fun q=>q.elim gk2 (fun q=>q.2 gz))]) (by rw [if_pos ⟨gk,gd⟩,eG]) (by rw [if_pos ⟨gk,gd⟩,eD])]
 have gd : (IntKind.i64.wrap (hh - pr (vals ps) (gx ps 0 0) w) != a.la) = false := g
 rw [eD] at gd
 have gd := bne_eq_false_iff_eq.1 gd
 intro _
 refine ⟨?_,rfl⟩
 rw [jd_eq (ch := a.ch) (cg := a.cg) (la := a.la) gf (by rw [if_neg (fun q=>q.elim gk2 (fun q=>q.2 gz))]) (by rw [if_neg (fun q=>q.2 gd)]) (by rw [if_neg (fun q=>q.2 gd)])]
set_option maxHeartbeats 8000000 in
theorem rjudge2_ok (nd mo : Int) (ps : Rws) (a : Ac) (xn w k hh : Int) (hb : gb ps) : SemF Try.prog 17 [CV nd mo ps 0,AV_ a,XV xn w k hh] ⟨1,1,DP ps⟩ (fun v _=>JuR nd mo ps a xn w k hh v∧nameless v = true) := by
 refine semF_seen ?_
 refine enter tt_ok Try.func17 (nt := 63) (cd := body Try.f17) rfl rfl rfl rfl ?_
 have no : ¬ Jok nd mo ps a xn w k hh→JuR nd mo ps a xn w k hh (.tup [.agg [.int .i64 0,.int .i64 0,.int .i64 0,.int .i64 0,.bool false],.int .i64 0,.bool false,.int .i64 1])∧nameless (.tup [.agg [.int .i64 0,.int .i64 0,.int .i64 0,.int .i64 0,.bool false],.int .i64 0,.bool false,.int .i64 1]) = true := fun h=>⟨.inr ⟨h,rfl⟩,rfl⟩
 have no' : ¬ Jok nd mo ps a xn w k hh→∃ v',(∀ n ν a,Cv n ν (.tup [.agg [.int .i64 0,.int .i64 0,.int .i64 0,.int .i64 0,.bool false],.int .i64 0,.bool false,.int .i64 1]) a→Cv n ν v' a)∧JuR nd mo ps a xn w k hh v'∧nameless v' = true := fun h=>⟨_,fun _ _ _ q=>q,no h⟩
 intro _
 refine call_pure [(0,some 0)] (rcvalid_ok nd mo ps hb) rfl rfl rfl ?_ ?_ ?_
 ·and_intros<;>try first|exact trivial|exact rfl
 ·and_intros<;>try first|exact trivial|exact rfl
 intro v hv _
 have hvW := hv
 intro _
 refine call_pure [] (racc_ok a) rfl rfl rfl ?_ ?_ ?_
 ·and_intros<;>try first|exact trivial|exact rfl
 ·and_intros<;>try first|exact trivial|exact rfl
 intro v hv _
 have hvA := hv
 intro _
 refine call_pure [] (rans_ok xn w k hh) rfl rfl rfl ?_ ?_ ?_
 ·and_intros<;>try first|exact trivial|exact rfl
 ·and_intros<;>try first|exact trivial|exact rfl
 intro v hv _
 subst hv
 subst hvA
 rcases hvW with ⟨hW,rfl⟩ | ⟨hW,rfl⟩
 rotate_left
 ·intro _
  exact no' (fun h=>hW h.1)
 intro _;refine ⟨fun g=>?_,fun g=>?_⟩
 ·have g1 : (!decide (Aok a)) = true := g
  rw [Bool.not_eq_true'] at g1
  have g1 := of_decide_eq_false g1
  intro _
  exact no' (fun h=>g1 h.2.1)
 have g1 : (!decide (Aok a)) = false := g
 rw [Bool.not_eq_false'] at g1
 have g1 := of_decide_eq_true g1
 intro _;refine ⟨fun g=>?_,fun g=>?_⟩
 ·have g2 : (!decide (Xok xn w k hh)) = true := g
  rw [Bool.not_eq_true'] at g2
  have g2 := of_decide_eq_false g2
  intro _
  exact no' (fun h=>g2 h.2.2.1)
 have g2 : (!decide (Xok xn w k hh)) = false := g
 rw [Bool.not_eq_false'] at g2
 have g2 := of_decide_eq_true g2
 intro _;refine ⟨fun g=>?_,fun g=>?_⟩
 ·have g3 : (a.nd != nd) = true := g
  have g3 := bne_iff_ne.1 g3
  intro _
  exact no' (fun h=>g3 h.2.2.2.1)
 have g3 : (a.nd != nd) = false := g
 have g3 := bne_eq_false_iff_eq.1 g3
 intro _;refine ⟨fun g=>?_,fun g=>?_⟩
 ·have g4 : (xn != nd) = true := g
  have g4 := bne_iff_ne.1 g4
  intro _
  exact no' (fun h=>g4 h.2.2.2.2)
 have g4 : (xn != nd) = false := g
 have g4 := bne_eq_false_iff_eq.1 g4
 have hJ : Jok nd mo ps a xn w k hh := ⟨hW,g1,g2,g3,g4⟩
 intro _
 refine call_pure [(0,some 0)] (rprom_ok nd mo ps w hb hW g2.2.1) rfl rfl rfl ?_ ?_ ?_
 ·and_intros<;>try first|exact trivial|exact rfl
 ·and_intros<;>try first|exact trivial|exact rfl
 intro v hv _
 subst hv
 intro _;refine Or.inl ?_
 intro _
 refine call_pure [(0,some 0)] (rjudgeA_ok nd mo ps a xn w k hh hb hW g1 g2) rfl rfl rfl ?_ ?_ ?_
 ·and_intros<;>try first|exact trivial|exact rfl
 ·and_intros<;>try first|exact trivial|exact rfl
 intro v hv _
 subst hv
 intro _;refine ⟨fun g=>?_,fun g=>?_⟩
 ·have gk : (k == 1) = true := g
  have gk : k = 1 := by simpa using gk
  intro _;refine ⟨by kernel_rfl,?_⟩
  intro _
  exact ⟨_,fun _ _ _ q=>q,.inl ⟨hJ,by rw [show decide (k = 1∧hh > pr (vals ps) (gx ps 0 0) w) = decide (hh > pr (vals ps) (gx ps 0 0) w) from by simp [gk]]⟩,rfl⟩
 have gk : (k == 1) = false := g
 have gk : k ≠ 1 := by simpa using gk
 intro _;refine ⟨by kernel_rfl,?_⟩
 intro _
 exact ⟨.tup [AV_ (jd k hh (pr (vals ps) (gx ps 0 0) w) mo a),.int .i64 (pr (vals ps) (gx ps 0 0) w),.test (decide (k = 1∧hh > pr (vals ps) (gx ps 0 0) w)),.int .i64 0],fun n ν a q=>by rw [show decide (k = 1∧hh > pr (vals ps) (gx ps 0 0) w) = false from by simp [gk]];simpa only [Cv,Cvs] using q,.inl ⟨hJ,rfl⟩,rfl⟩
set_option maxHeartbeats 8000000 in
theorem rcourse_ok (nd mo : Int) (ps l : Rws) (hb : gb ps) (hl : l.length≤9223372036854775807) : SemF Try.prog 19 [CV nd mo ps 0,.slc 1 4 0 l.length] ⟨2,2,DCA ps l⟩ (CoR nd mo ps l) := by
 refine SemF.ret ?_
 refine enter tt_ok Try.func19 (nt := 67) (cd := body Try.f19) rfl rfl rfl rfl ?_
 intro _
 refine call_pure [(0,some 0)] (rcvalid_ok nd mo ps hb) rfl rfl rfl ?_ ?_ ?_
 ·and_intros<;>try first|exact trivial|exact rfl
 ·and_intros<;>try first|exact trivial|exact rfl
 intro v hv _
 rcases hv with ⟨hW,rfl⟩ | ⟨hW,rfl⟩
 rotate_left
 ·intro _
  refine ⟨[],.tup [Z5,.nils,.int .i64 1],⟨2,2,[]⟩,rfl,rfl,rfl,rfl,?_,?_,.inr ⟨fun h=>hW h.1,1,.inr ⟨rfl,fun h=>hW h.1⟩,rfl,rfl⟩⟩
  ·and_intros<;>try first|exact trivial|exact rfl
  ·and_intros<;>try first|exact trivial|exact rfl
 intro _;refine ⟨fun g=>?_,fun g=>?_⟩
 ·have g := of_decide_eq_true (show decide ((l.length : Int) > 500) = true from g)
  intro _
  refine ⟨[],.tup [Z5,.nils,.int .i64 2],⟨2,2,[]⟩,rfl,rfl,rfl,rfl,?_,?_,.inr ⟨fun h=>by have := h.2.1;omega,2,.inl ⟨rfl,hW,by omega⟩,rfl,rfl⟩⟩
  ·and_intros<;>try first|exact trivial|exact rfl
  ·and_intros<;>try first|exact trivial|exact rfl
 have g500 := of_decide_eq_false (show decide ((l.length : Int) > 500) = false from g)
 have a0 : Aok (A0 nd) := ⟨hW.1,(by decide : Cn_ 0),(by decide : Cn_ 0),(by decide : (-1000000 : Int)≤0),(by decide : (0 : Int)≤1000000)⟩
 intro _
 refine loop2 tt_ok [9,10] [4,5] 6 (fun k : { k : Nat // k≤l.length∧∀ i,i < k→Xk nd l i }=>[(9,.grw 5 k.1),(10,.int .i64 (k.1 : Nat))]) (fun k=>[(4,.cells [.int .i64 (acc mo ps l (A0 nd) k.1).nd,.int .i64 (acc mo ps l (A0 nd) k.1).ch,.int .i64 (acc mo ps l (A0 nd) k.1).cg,.int .i64 (acc mo ps l (A0 nd) k.1).la,.test (acc mo ps l (A0 nd) k.1).fr]),(5,.arr [.int .i64] .grow (.ints (hts ps l k.1)))]) (fun k=>l.length - k.1) ⟨0,Nat.zero_le _,fun i h=>by omega⟩ ?_
 intro _
 refine ⟨⟨th [(5,none)] 6,rfl,rfl,rfl,rfl,rfl,rfl,?_,?_⟩,?_⟩
 ·and_intros<;>try first|exact trivial|exact rfl
 ·and_intros<;>try first|exact trivial|exact rfl
 intro ⟨k,hk,hm⟩
 have hk : k≤l.length := hk
 have hm : ∀ i,i < k→Xk nd l i := hm
 have hA := acc_aok (mo := mo) (ps := ps) hW a0 k hm
 have hl2 := hts_len ps l k
 intro _;refine ⟨fun g=>?_,fun g=>?_⟩
 rotate_left
 ·have g := of_decide_eq_false (show decide ((k : Int) < (l.length : Int)) = false from g)
  have e : k = l.length := by omega
  subst e
  intro _
  refine ⟨[(2,some 5)],.tup [AV_ (acc mo ps l (A0 nd) l.length),.grw 2 l.length,.int .i64 0],⟨3,2,[(2,.arr [.int .i64] .grow (.ints (hts ps l l.length)))]⟩,rfl,rfl,rfl,rfl,?_,?_,.inl ⟨⟨hW,by omega,hm⟩,rfl,rfl⟩⟩
  ·and_intros<;>try first|exact trivial|exact rfl
  ·and_intros<;>try first|exact trivial|exact rfl
 have g := of_decide_eq_true (show decide ((k : Int) < (l.length : Int)) = true from g)
 have z : 0 + ((k : Nat) : Int).toNat = k := by omega
 intro _;refine ⟨show 0≤(k : Int)∧(k : Int) < (l.length : Int) by omega,?_⟩
 intro _;refine ⟨show 0 + (k : Int).toNat < l.length by omega,?_⟩
 intro _
 refine call_pure [] (rans_ok (gx l (0 + ((k : Nat) : Int).toNat) 0) (gx l (0 + ((k : Nat) : Int).toNat) 1) (gx l (0 + ((k : Nat) : Int).toNat) 2) (gx l (0 + ((k : Nat) : Int).toNat) 3)) rfl rfl rfl ?_ ?_ ?_
 ·and_intros<;>try first|exact trivial|exact rfl
 ·and_intros<;>try first|exact trivial|exact rfl
 intro v hv _
 subst hv
 intro _;refine ⟨fun g=>?_,fun g=>?_⟩
 ·have g1 : (!decide (Xok (gx l (0 + ((k : Nat) : Int).toNat) 0) (gx l (0 + ((k : Nat) : Int).toNat) 1) (gx l (0 + ((k : Nat) : Int).toNat) 2) (gx l (0 + ((k : Nat) : Int).toNat) 3))) = true := g
  rw [Bool.not_eq_true',z] at g1
  have g1 := of_decide_eq_false g1
  intro _;refine ⟨by kernel_rfl,?_⟩
  intro _
  refine ⟨[],.tup [Z5,.nils,.int .i64 1],⟨2,2,[]⟩,rfl,rfl,rfl,rfl,?_,?_,.inr ⟨fun h=>g1 (h.2.2 k (by omega)).1,1,.inr ⟨rfl,fun q=>by omega⟩,rfl,rfl⟩⟩
  ·and_intros<;>try first|exact trivial|exact rfl
  ·and_intros<;>try first|exact trivial|exact rfl
 have g1 : (!decide (Xok (gx l (0 + ((k : Nat) : Int).toNat) 0) (gx l (0 + ((k : Nat) : Int).toNat) 1) (gx l (0 + ((k : Nat) : Int).toNat) 2) (gx l (0 + ((k : Nat) : Int).toNat) 3))) = false := g
 rw [Bool.not_eq_false',z] at g1
 have g1 := of_decide_eq_true g1
 intro _;refine ⟨show 0≤(k : Int)∧(k : Int) < (l.length : Int) by omega,?_⟩
 intro _;refine ⟨show 0 + (k : Int).toNat < l.length by omega,?_⟩
 intro _;refine ⟨by kernel_rfl,?_⟩
 intro _;refine ⟨fun g=>?_,fun g=>?_⟩
 ·have g2 : (gx l (0 + ((k : Nat) : Int).toNat) 0 != nd) = true := g
  rw [z] at g2
  have g2 := bne_iff_ne.1 g2
  intro _
  refine ⟨[],.tup [Z5,.nils,.int .i64 1],⟨2,2,[]⟩,rfl,rfl,rfl,rfl,?_,?_,.inr ⟨fun h=>g2 (h.2.2 k (by omega)).2,1,.inr ⟨rfl,fun q=>by omega⟩,rfl,rfl⟩⟩
  ·and_intros<;>try first|exact trivial|exact rfl
  ·and_intros<;>try first|exact trivial|exact rfl
 have g2 : (gx l (0 + ((k : Nat) : Int).toNat) 0 != nd) = false := g
 rw [z] at g2
 have g2 := bne_eq_false_iff_eq.1 g2
 intro _;refine ⟨show 0≤(k : Int)∧(k : Int) < (l.length : Int) by omega,?_⟩
 intro _;refine ⟨show 0 + (k : Int).toNat < l.length by omega,?_⟩
 intro _;refine Or.inl ?_
 intro _
 refine call_pure [(0,some 0)] (rjudgeA_ok nd mo ps (acc mo ps l (A0 nd) k) (gx l (0 + ((k : Nat) : Int).toNat) 0) (gx l (0 + ((k : Nat) : Int).toNat) 1) (gx l (0 + ((k : Nat) : Int).toNat) 2) (gx l (0 + ((k : Nat) : Int).toNat) 3) hb hW hA.1 (by rw [z];exact g1)) rfl rfl rfl ?_ ?_ ?_
 ·and_intros<;>try first|exact trivial|exact rfl
 ·and_intros<;>try first|exact trivial|exact rfl
 intro v hv _
 subst hv
 intro _;refine ⟨by kernel_rfl,?_⟩
 intro _;refine ⟨show 0≤(k : Int)∧(k : Int) < (l.length : Int) by omega,?_⟩
 intro _;refine ⟨show 0 + (k : Int).toNat < l.length by omega,?_⟩
 intro _;refine Or.inl ?_
 intro _
 refine call_pure [(0,some 0)] (rprom_ok nd mo ps (gx l (0 + ((k : Nat) : Int).toNat) 1) hb hW (by rw [z];exact g1.2.1)) rfl rfl rfl ?_ ?_ ?_
 ·and_intros<;>try first|exact trivial|exact rfl
 ·and_intros<;>try first|exact trivial|exact rfl
 intro v hv _
 subst hv
 intro _;refine Or.inr ?_
 intro _;refine ⟨rfl,?_⟩
 intro _;refine ⟨fun g3=>by simp at g3,fun _=>?_⟩
 refine ⟨⟨hl2.symm,show k + 1≤4611686018427387904 by omega,show (k + 1) * 8≤140737488355328 by omega⟩,?_⟩
 intro _;refine ⟨by kernel_rfl,?_⟩
 refine ⟨⟨k + 1,by omega,fun i hi=>?_⟩,by show l.length - (k + 1) < l.length - k;omega,th [(5,some 7)] 6,rfl,rfl,rfl,rfl,rfl,rfl,?_,?_⟩
 ·by_cases e : i = k
  ·subst e;exact ⟨g1,g2⟩
  ·exact hm i (by omega)
 ·and_intros<;>try first|exact trivial|exact rfl
  exact (wrap_nat k (by omega)).symm
 ·and_intros<;>try first|exact trivial|exact rfl
  all_goals first | (simp only [z];rfl) | (rw [z];rfl)
end Go.Proofs.Ytbcjncoajilijaa.con
