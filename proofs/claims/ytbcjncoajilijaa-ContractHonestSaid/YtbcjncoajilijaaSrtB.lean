/-
 Contracts of packages quot, curve and contract. No conditions beyond those that its theorems name.
-/
import Derived.Test.YtbcjncoajilijaaRows
import Derived.Test.YtbcjncoajilijaaVwOpen2
import Derived.Test.YtbcjncoajilijaaVwRules7
import Derived.WalkKit
import Derived.ProofKit
import Derived.OpenShut
import Derived.Carry
import Derived.Test.YtbcjncoajilijaaSrtA
namespace Go.Proofs.Ytbcjncoajilijaa.con
open Go.ChangeShapes Go.WideShapes Go.ChangeAt Go.RowKit
open Go.Vm (Facts Val Sound)
open Go.Vm2
set_option linter.unusedVariables false
set_option linter.unusedSectionVars false
set_option maxRecDepth 100000
structure Ou (a b x y : Nat) (c : List Int) : Prop where
 aa : a≤x
 ab : x≤y
 bb : y≤b
 s1 : Srt c a x
 p1 : ∀ p q,a≤p→p < x→x≤q→q < b→at' c p≤at' c q
 s2 : Srt c y b
 p2 : ∀ p q,a≤p→p < y→y≤q→q < b→at' c p≤at' c q
section
variable {a b x y : Nat} {c d : List Int}
theorem Ou.start (hab : a≤b) : Ou a b a b c := ⟨Nat.le_refl _,hab,Nat.le_refl _,fun p q h1 h2 h3=>by omega,fun p q h1 h2=>by omega,fun p q h1 h2 h3=>by omega,fun p q h1 h2 h3 h4=>by omega⟩
theorem Ou.pm (h : Ou a b x y c) (hb : b≤c.length) (hp : Pm x y c d) : Ou a b x y d := by
 have h1 := h.aa
 have h2 := h.ab
 have h3 := h.bb
 have out := hp.out
 refine ⟨h1,h2,h3,fun p q k1 k2 k3=>?_,fun p q k1 k2 k3 k4=>?_,fun p q k1 k2 k3=>?_,fun p q k1 k2 k3 k4=>?_⟩
 ·rw [out p (.inl (by omega)),out q (.inl (by omega))];exact h.s1 p q k1 k2 k3
 ·rw [out p (.inl k2)]
  by_cases e : q < y
  ·exact hp.all h2 (by omega) (fun v=>at' c p≤v) (fun k j1 j2=>h.p1 p k k1 k2 j1 (by omega)) q k3 e
  ·rw [out q (.inr (by omega))];exact h.p1 p q k1 k2 k3 k4
 ·rw [out p (.inr k1),out q (.inr (by omega))];exact h.s2 p q k1 k2 k3
 ·rw [out q (.inr k3)]
  by_cases e : x≤p
  ·exact hp.all h2 (by omega) (fun v=>v≤at' c q) (fun k j1 j2=>h.p2 k q (by omega) j2 k3 k4) p e k2
  ·rw [out p (.inl (by omega))];exact h.p2 p q k1 k2 k3 k4
theorem Ou.lb (h : Ou a b x y c) (hl : Lb c a b) : Lb c x y := fun h0 k k1 k2=>by
 have h1 := h.aa
 have h3 := h.bb
 by_cases e : x = a
 ·subst e;exact hl h0 k k1 (by omega)
 ·exact h.p1 (x - 1) k (by omega) (by omega) k1 (by omega)
theorem Ou.fin (h : Ou a b x y c) (hs : Srt c x y) : Srt c a b := fun p q k1 k2 k3=>by
 by_cases e1 : p < x
 ·by_cases e2 : q < x
  ·exact h.s1 p q k1 k2 e2
  ·exact h.p1 p q k1 e1 (by omega) k3
 ·by_cases e2 : p < y
  ·by_cases e3 : q < y
   ·exact hs p q (by omega) k2 e3
   ·exact h.p2 p q k1 e2 (by omega) k3
  ·exact h.s2 p q (by omega) k2 k3
theorem Pt.left' {m : Nat} (hp : Pt x y m c) (hb : y≤c.length) (hq : Pm x m c d) : Pt x y m d := by
 have h1 := hp.am
 have h2 := hp.mb
 have e : at' d m = at' c m := hq.out m (.inr (Nat.le_refl _))
 refine ⟨h1,h2,fun k k1 k2=>?_,fun k k1 k2=>?_⟩
 ·rw [e];exact hq.all h1 (by omega) (fun v=>v≤at' c m) hp.left k k1 k2
 ·rw [e,hq.out k (.inr (by omega))];exact hp.right k k1 k2
theorem Pt.right' {m : Nat} (hp : Pt x y m c) (hb : y≤c.length) (hq : Pm (m + 1) y c d) : Pt x y m d := by
 have h1 := hp.am
 have h2 := hp.mb
 have e : at' d m = at' c m := hq.out m (.inl (by omega))
 refine ⟨h1,h2,fun k k1 k2=>?_,fun k k1 k2=>?_⟩
 ·rw [e,hq.out k (.inl (by omega))];exact hp.left k k1 k2
 ·rw [e];exact hq.all (by omega) hb (fun v=>at' c m≤v) (fun k j1 j2=>hp.right k (by omega) j2) k (by omega) k2
theorem Ou.left {m : Nat} (h : Ou a b x y c) (hp : Pt x y m c) (hs : Srt c x m) : Ou a b (m + 1) y c := by
 have h1 := h.aa
 have h2 := h.ab
 have h3 := h.bb
 have m1 := hp.am
 have m2 := hp.mb
 refine ⟨by omega,by omega,h3,fun p q k1 k2 k3=>?_,fun p q k1 k2 k3 k4=>?_,h.s2,h.p2⟩
 ·by_cases e1 : p < x
  ·by_cases e2 : q < x
   ·exact h.s1 p q k1 k2 e2
   ·exact h.p1 p q k1 e1 (by omega) (by omega)
  ·by_cases e2 : q = m
   ·subst e2;exact hp.left p (by omega) k2
   ·exact hs p q (by omega) k2 (by omega)
 ·by_cases e1 : p < x
  ·exact h.p1 p q k1 e1 (by omega) k4
  ·by_cases e3 : q < y
   ·have g1 := hp.right q (by omega) e3
    by_cases e2 : p = m
    ·subst e2;exact g1
    ·have := hp.left p (by omega) (by omega);omega
   ·exact h.p2 p q k1 (by omega) (by omega) k4
theorem Ou.right {m : Nat} (h : Ou a b x y c) (hp : Pt x y m c) (hs : Srt c (m + 1) y) : Ou a b x m c := by
 have h1 := h.aa
 have h2 := h.ab
 have h3 := h.bb
 have m1 := hp.am
 have m2 := hp.mb
 refine ⟨h1,m1,by omega,h.s1,h.p1,fun p q k1 k2 k3=>?_,fun p q k1 k2 k3 k4=>?_⟩
 ·by_cases e3 : q < y
  ·by_cases e2 : p = m
   ·subst e2;exact hp.right q k2 e3
   ·exact hs p q (by omega) k2 e3
  ·by_cases e4 : p < y
   ·exact h.p2 p q (by omega) e4 (by omega) k3
   ·exact h.s2 p q (by omega) k2 k3
 ·by_cases e1 : p < x
  ·exact h.p1 p q k1 e1 (by omega) k4
  ·by_cases e3 : q < y
   ·have g1 := hp.left p (by omega) (by omega)
    by_cases e2 : q = m
    ·subst e2;exact g1
    ·have := hp.right q (by omega) e3;omega
   ·exact h.p2 p q k1 (by omega) (by omega) k4
theorem Ou.eq {m : Nat} {v : Int} (h : Ou a b x y c) (hl : Lb c x y) (h0 : 0 < x) (hm1 : x < m) (hm2 : m≤y) (hv : v≤at' c (x - 1)) (g1 : ∀ k,x≤k→k < m→at' c k≤v) (g2 : ∀ k,m≤k→k < y→v < at' c k) : Ou a b m y c := by
 have h1 := h.aa
 have h2 := h.ab
 have h3 := h.bb
 have lo : ∀ k,x≤k→k < y→v≤at' c k := fun k k1 k2=>Int.le_trans hv (hl h0 k k1 k2)
 refine ⟨by omega,hm2,h3,fun p q k1 k2 k3=>?_,fun p q k1 k2 k3 k4=>?_,h.s2,h.p2⟩
 ·by_cases e1 : p < x
  ·by_cases e2 : q < x
   ·exact h.s1 p q k1 k2 e2
   ·exact h.p1 p q k1 e1 (by omega) (by omega)
  ·exact Int.le_trans (g1 p (by omega) (by omega)) (lo q (by omega) (by omega))
 ·by_cases e1 : p < x
  ·exact h.p1 p q k1 e1 (by omega) k4
  ·by_cases e3 : q < y
   ·exact Int.le_trans (g1 p (by omega) k2) (lo q (by omega) e3)
   ·exact h.p2 p q k1 (by omega) (by omega) k4
end
set_option maxHeartbeats 2000000 in
theorem pdq_ok (N : Nat) : ∀ (l : List Int) (hB_l : Bd l) (a b : Nat) (lim : Int),b - a≤N→a≤b→b≤l.length→l.length≤4096→Lb l a b→SemF Try.prog 84 [.grw 0 l.length,.int .i64 a,.int .i64 b,.int .i64 lim,.fn 74 [] []] ⟨1,0,DA l⟩ (fun v h'=>∃ l',(Pm a b l l'∧Srt l' a b)∧v = .tup []∧Dat l' h') := by
 induction N using Nat.strongRecOn with
 | _ N ih =>
 intro l hB_l a b lim hN hab hb hl hlb
 refine enter tt_ok Try.func84 (nt := 148) (cd := body Try.f84) rfl rfl rfl rfl ?_
 intro _
 refine loop2 tt_ok [1,2,3,10,11] [0] 1 (fun z : { z : Nat × Nat × Int × Bool × Bool × List Int // Pm a b l z.2.2.2.2.2∧Ou a b z.1 z.2.1 z.2.2.2.2.2 }=>[(1,.int .i64 (z.1.1 : Nat)),(2,.int .i64 (z.1.2.1 : Nat)),(3,.int .i64 z.1.2.2.1),(10,.test z.1.2.2.2.1),(11,.test z.1.2.2.2.2.1)]) (fun z=>DA z.1.2.2.2.2.2) (fun z=>z.1.2.1 - z.1.1) ⟨(a,b,lim,true,true,l),Pm.refl _ _ _,Ou.start hab⟩ ?_
 intro _
 refine ⟨⟨th [] 1,rfl,rfl,rfl,rfl,rfl,rfl,?_,?_⟩,?_⟩
 ·and_intros<;>try first|exact trivial|exact rfl
 ·and_intros<;>try first|exact trivial|exact rfl
 intro ⟨⟨x,y,lm,wb,wp,c⟩,hc,hO⟩
 have hc : Pm a b l c := hc
 have hO : Ou a b x y c := hO
 have hcl : c.length = l.length := hc.len
 have hB_c : Bd c := hc.bd hB_l
 have hlbx : Lb c x y := hO.lb (hlb.pm hc hab hb)
 have hax := hO.aa
 have hxy := hO.ab
 have hyb := hO.bb
 have eN : IntKind.i64.wrap ((y : Int) - (x : Int)) = ((y - x : Nat) : Int) := by rw [wrapS _ ⟨by omega,by omega⟩];omega
 intro _;refine ⟨fun g=>?_,fun g=>?_⟩
 ·intro _
  refine call_mut [(0,some 0)] (ins_ok c hB_c x y (by omega) (by omega) (by omega)) rfl rfl rfl rfl ?_ ?_ ?_
  ·and_intros<;>try first|exact trivial|exact rfl
  ·and_intros<;>try first|exact trivial|exact rfl
   exact hcl
  intro v h' ⟨c2,⟨hp2,hs2⟩,hv,hd⟩
  subst hv
  refine ⟨_,mut1 hd,rfl,?_⟩
  have hO : Ou a b x y c2 := hO.pm (by omega) hp2
  have hc : Pm a b l c2 := hc.trans (hp2.wide hO.aa hO.bb)
  have hcl : c2.length = l.length := hc.len
  have hB_c2 : Bd c2 := hc.bd hB_l
  have hlbx : Lb c2 x y := hO.lb (hlb.pm hc hab hb)
  intro _
  exact ⟨c2,⟨hc,hO.fin hs2⟩,rfl,rfl⟩
 have g := of_decide_eq_false (show decide (IntKind.i64.wrap ((y : Int) - (x : Int))≤12) = false from g)
 rw [eN] at g
 have hn : x + 12 < y := by omega
 clear g
 intro _;refine ⟨fun g=>?_,fun g=>?_⟩
 ·intro _
  refine call_mut [(0,some 0)] (heap_ok c hB_c x y (by omega) (by omega) (by omega)) rfl rfl rfl rfl ?_ ?_ ?_
  ·and_intros<;>try first|exact trivial|exact rfl
  ·and_intros<;>try first|exact trivial|exact rfl
   exact hcl
  intro v h' ⟨c2,⟨hp2,hs2⟩,hv,hd⟩
  subst hv
  refine ⟨_,mut1 hd,rfl,?_⟩
  have hO : Ou a b x y c2 := hO.pm (by omega) hp2
  have hc : Pm a b l c2 := hc.trans (hp2.wide hO.aa hO.bb)
  have hcl : c2.length = l.length := hc.len
  have hB_c2 : Bd c2 := hc.bd hB_l
  have hlbx : Lb c2 x y := hO.lb (hlb.pm hc hab hb)
  intro _
  exact ⟨c2,⟨hc,hO.fin hs2⟩,rfl,rfl⟩
 intro _;refine ⟨fun g=>?_,fun g=>?_⟩
 ·have g : (!wb) = true := g
  rw [Bool.not_eq_true'] at g
  have hwb : wb = false := g
  intro _
  refine call_mut [(0,some 0)] (break_ok c hB_c x y (by omega) (by omega) (by omega)) rfl rfl rfl rfl ?_ ?_ ?_
  ·and_intros<;>try first|exact trivial|exact rfl
  ·and_intros<;>try first|exact trivial|exact rfl
   exact hcl
  intro v h' ⟨c1,hp1,hv,hd⟩
  subst hv
  refine ⟨_,mut1 hd,rfl,?_⟩
  have hO : Ou a b x y c1 := hO.pm (by omega) hp1
  have hc : Pm a b l c1 := hc.trans (hp1.wide hO.aa hO.bb)
  have hcl : c1.length = l.length := hc.len
  have hB_c1 : Bd c1 := hc.bd hB_l
  have hlbx : Lb c1 x y := hO.lb (hlb.pm hc hab hb)
  intro _
  refine call_mut [(0,some 0)] (pivot_ok c1 hB_c1 x y (by omega) (by omega) (by omega)) rfl rfl rfl rfl ?_ ?_ ?_
  ·and_intros<;>try first|exact trivial|exact rfl
  ·and_intros<;>try first|exact trivial|exact rfl
   exact hcl
  intro v h' ⟨p,k,hpp,hk,hv,hd⟩
  subst hv
  refine ⟨_,mut1 hd,rfl,?_⟩
  intro _;refine ⟨fun g=>?_,fun g=>?_⟩
  ·intro _
   refine call_mut [(0,some 0)] (rev_ok c1 hB_c1 x y (by omega) (by omega) (by omega)) rfl rfl rfl rfl ?_ ?_ ?_
   ·and_intros<;>try first|exact trivial|exact rfl
   ·and_intros<;>try first|exact trivial|exact rfl
    exact hcl
   intro v h' ⟨c5,hp5,hv,hd⟩
   subst hv
   refine ⟨_,mut1 hd,rfl,?_⟩
   have hO : Ou a b x y c5 := hO.pm (by omega) hp5
   have hc : Pm a b l c5 := hc.trans (hp5.wide hO.aa hO.bb)
   have hcl : c5.length = l.length := hc.len
   have hB_c5 : Bd c5 := hc.bd hB_l
   have hlbx : Lb c5 x y := hO.lb (hlb.pm hc hab hb)
   have eqP : ((y - 1 - (p - x) : Nat) : Int) = IntKind.i64.wrap (IntKind.i64.wrap ((y : Int) - 1) - IntKind.i64.wrap ((p : Int) - (x : Int))) := by
    rw [wrapS ((y : Int) - 1) ⟨by omega,by omega⟩,wrapS ((p : Int) - (x : Int)) ⟨by omega,by omega⟩,wrapS _ ⟨by omega,by omega⟩];omega
   intro _;refine ⟨fun g=>?_,fun g=>?_⟩
   ·exact absurd (show wb = true from g) (by rw [hwb];decide)
   intro _;refine ⟨fun g=>?_,fun g=>?_⟩
   ·have g0 := of_decide_eq_true (show decide ((x : Int) > 0) = true from g)
    have ex : IntKind.i64.wrap ((x : Int) - 1) = (x : Int) - 1 := wrapS _ ⟨by omega,by omega⟩
    have n1 : (IntKind.i64.wrap ((x : Int) - 1)).toNat = x - 1 := by rw [ex];omega
    have eP : IntKind.i64.wrap (IntKind.i64.wrap ((y : Int) - 1) - IntKind.i64.wrap ((p : Int) - (x : Int))) = ((y - 1 - (p - x) : Nat) : Int) := (eqP).symm
    have nP : (IntKind.i64.wrap (IntKind.i64.wrap ((y : Int) - 1) - IntKind.i64.wrap ((p : Int) - (x : Int)))).toNat = y - 1 - (p - x) := by rw [eP];rfl
    intro _;refine ⟨show 0≤IntKind.i64.wrap ((x : Int) - 1)∧IntKind.i64.wrap ((x : Int) - 1) < (l.length : Int) by rw [ex];omega,?_⟩
    intro _;refine ⟨show (IntKind.i64.wrap ((x : Int) - 1)).toNat < c5.length by rw [n1];omega,?_⟩
    intro _;refine ⟨show 0≤IntKind.i64.wrap (IntKind.i64.wrap ((y : Int) - 1) - IntKind.i64.wrap ((p : Int) - (x : Int)))∧IntKind.i64.wrap (IntKind.i64.wrap ((y : Int) - 1) - IntKind.i64.wrap ((p : Int) - (x : Int))) < (l.length : Int) by rw [eP];omega,?_⟩
    intro _;refine ⟨show (IntKind.i64.wrap (IntKind.i64.wrap ((y : Int) - 1) - IntKind.i64.wrap ((p : Int) - (x : Int)))).toNat < c5.length by rw [nP];omega,?_⟩
    intro _
    refine Or.inl ?_
    intro _
    refine call_pure [] (less_ok (raw c5 (x - 1)) (raw c5 (y - 1 - (p - x))) (hB_c5.at _) (hB_c5.at _)) rfl rfl rfl ?_ ?_ ?_
    ·and_intros<;>try first|exact trivial|exact rfl
    ·and_intros<;>try first|exact trivial|exact rfl
     show raw c5 (x - 1) = c5.getD (IntKind.i64.wrap ((x : Int) - 1)).toNat 0
     rw [n1];rfl
     show raw c5 (y - 1 - (p - x)) = c5.getD (IntKind.i64.wrap (IntKind.i64.wrap ((y : Int) - 1) - IntKind.i64.wrap ((p : Int) - (x : Int)))).toNat 0
     rw [nP];rfl
    intro v hv _
    subst hv
    intro _;refine ⟨by kernel_rfl,?_⟩
    intro _;refine ⟨fun g=>?_,fun g=>?_⟩
    ·have g2 : (!decide (nr (raw c5 (x - 1)) (raw c5 (y - 1 - (p - x))) < 0)) = true := g
     rw [Bool.not_eq_true'] at g2
     have g2 : ¬ at' c5 (x - 1) < at' c5 (y - 1 - (p - x)) := fun q=>absurd (nr_lt.2 q) (of_decide_eq_false g2)
     intro _
     refine call_mut [(0,some 0)] (parteq_ok c5 hB_c5 x y (y - 1 - (p - x)) (by omega) (by omega) (by omega) (by omega)) rfl rfl rfl rfl ?_ ?_ ?_
     ·and_intros<;>try first|exact trivial|exact rfl
     ·and_intros<;>try first|exact trivial|exact rfl
      ·exact hcl
      ·exact eqP
     intro v h' ⟨c2,m,⟨hp2,hm1,hm2,hq1,hq2⟩,hv,hd⟩
     subst hv
     refine ⟨_,mut1 hd,rfl,?_⟩
     have hvx : at' c5 (y - 1 - (p - x))≤at' c2 (x - 1) := by rw [hp2.out (x - 1) (.inl (by omega))];omega
     have hO : Ou a b x y c2 := hO.pm (by omega) hp2
     have hc : Pm a b l c2 := hc.trans (hp2.wide hO.aa hO.bb)
     have hcl : c2.length = l.length := hc.len
     have hB_c2 : Bd c2 := hc.bd hB_l
     have hlbx : Lb c2 x y := hO.lb (hlb.pm hc hab hb)
     have hOe : Ou a b m y c2 := hO.eq hlbx (by omega) hm1 hm2 hvx hq1 hq2
     refine ⟨⟨(m,y,IntKind.i64.wrap (lm - 1),wb,wp,c2),hc,hOe⟩,by show y - m < y - x;omega,th [] 1,rfl,rfl,rfl,rfl,rfl,rfl,?_,?_⟩
     ·and_intros<;>try first|exact trivial|exact rfl
     ·and_intros<;>try first|exact trivial|exact rfl
    intro _
    refine call_mut [(0,some 0)] (part_ok c5 hB_c5 x y (y - 1 - (p - x)) (by omega) (by omega) (by omega) (by omega)) rfl rfl rfl rfl ?_ ?_ ?_
    ·and_intros<;>try first|exact trivial|exact rfl
    ·and_intros<;>try first|exact trivial|exact rfl
     ·exact hcl
     ·exact eqP
    intro v h' ⟨c2,m,q,⟨hp2,hPt⟩,hv,hd⟩
    subst hv
    refine ⟨_,mut1 hd,rfl,?_⟩
    have hO : Ou a b x y c2 := hO.pm (by omega) hp2
    have hc : Pm a b l c2 := hc.trans (hp2.wide hO.aa hO.bb)
    have hcl : c2.length = l.length := hc.len
    have hB_c2 : Bd c2 := hc.bd hB_l
    have hlbx : Lb c2 x y := hO.lb (hlb.pm hc hab hb)
    have m1 := hPt.am
    have m2 := hPt.mb
    have eL : IntKind.i64.wrap ((m : Int) - (x : Int)) = ((m - x : Nat) : Int) := by rw [wrapS _ ⟨by omega,by omega⟩];omega
    have eR : IntKind.i64.wrap ((y : Int) - (m : Int)) = ((y - m : Nat) : Int) := by rw [wrapS _ ⟨by omega,by omega⟩];omega
    have em1 : IntKind.i64.wrap ((m : Int) + 1) = ((m + 1 : Nat) : Int) := by rw [wrapS _ ⟨by omega,by omega⟩];omega
    have lbL : Lb c2 x m := fun h0 k k1 k2=>hlbx h0 k k1 (by omega)
    have lbR : Lb c2 (m + 1) y := fun h0 k k1 k2=>hPt.right k (by omega) k2
    intro _;refine ⟨by omega,?_⟩
    intro _;refine ⟨fun g=>?_,fun g=>?_⟩
    ·intro _
     refine call_mut [(0,some 0)] (ih (m - x) (by omega) c2 hB_c2 x m (IntKind.i64.wrap (lm - 1)) (Nat.le_refl _) (by omega) (by omega) (by omega) lbL) rfl rfl rfl rfl ?_ ?_ ?_
     ·and_intros<;>try first|exact trivial|exact rfl
     ·and_intros<;>try first|exact trivial|exact rfl
      exact hcl
     intro v h' ⟨c3,⟨hp3,hs3⟩,hv,hd⟩
     subst hv
     refine ⟨_,mut1 hd,rfl,?_⟩
     have hPt3 : Pt x y m c3 := hPt.left' (by omega) hp3
     have hO3 : Ou a b x y c3 := hO.pm (by omega) (hp3.wide (Nat.le_refl _) (by omega))
     have hc3 : Pm a b l c3 := hc.trans (hp3.wide hO.aa (by omega))
     refine ⟨⟨(m + 1,y,IntKind.i64.wrap (lm - 1),decide (IntKind.i64.wrap ((m : Int) - (x : Int)) ≥ IntKind.i64.wrap ((IntKind.i64.wrap ((y : Int) - (x : Int))).tdiv 8)),q,c3),hc3,hO3.left hPt3 hs3⟩,by show y - (m + 1) < y - x;omega,th [] 1,rfl,rfl,rfl,rfl,rfl,rfl,?_,?_⟩
     ·and_intros<;>try first|exact trivial|exact rfl
      exact em1.symm
     ·and_intros<;>try first|exact trivial|exact rfl
    intro _
    refine call_mut [(0,some 0)] (ih (y - (m + 1)) (by omega) c2 hB_c2 (m + 1) y (IntKind.i64.wrap (lm - 1)) (Nat.le_refl _) (by omega) (by omega) (by omega) lbR) rfl rfl rfl rfl ?_ ?_ ?_
    ·and_intros<;>try first|exact trivial|exact rfl
    ·and_intros<;>try first|exact trivial|exact rfl
     ·exact hcl
     ·exact em1.symm
    intro v h' ⟨c3,⟨hp3,hs3⟩,hv,hd⟩
    subst hv
    refine ⟨_,mut1 hd,rfl,?_⟩
    have hPt3 : Pt x y m c3 := hPt.right' (by omega) hp3
    have hO3 : Ou a b x y c3 := hO.pm (by omega) (hp3.wide (by omega) (Nat.le_refl _))
    have hc3 : Pm a b l c3 := hc.trans (hp3.wide (by omega) hO.bb)
    refine ⟨⟨(x,m,IntKind.i64.wrap (lm - 1),decide (IntKind.i64.wrap ((y : Int) - (m : Int)) ≥ IntKind.i64.wrap ((IntKind.i64.wrap ((y : Int) - (x : Int))).tdiv 8)),q,c3),hc3,hO3.right hPt3 hs3⟩,by show m - x < y - x;omega,th [] 1,rfl,rfl,rfl,rfl,rfl,rfl,?_,?_⟩
    ·and_intros<;>try first|exact trivial|exact rfl
    ·and_intros<;>try first|exact trivial|exact rfl
   intro _;refine ⟨by kernel_rfl,?_⟩
   intro _
   refine call_mut [(0,some 0)] (part_ok c5 hB_c5 x y (y - 1 - (p - x)) (by omega) (by omega) (by omega) (by omega)) rfl rfl rfl rfl ?_ ?_ ?_
   ·and_intros<;>try first|exact trivial|exact rfl
   ·and_intros<;>try first|exact trivial|exact rfl
    ·exact hcl
    ·exact eqP
   intro v h' ⟨c2,m,q,⟨hp2,hPt⟩,hv,hd⟩
   subst hv
   refine ⟨_,mut1 hd,rfl,?_⟩
   have hO : Ou a b x y c2 := hO.pm (by omega) hp2
   have hc : Pm a b l c2 := hc.trans (hp2.wide hO.aa hO.bb)
   have hcl : c2.length = l.length := hc.len
   have hB_c2 : Bd c2 := hc.bd hB_l
   have hlbx : Lb c2 x y := hO.lb (hlb.pm hc hab hb)
   have m1 := hPt.am
   have m2 := hPt.mb
   have eL : IntKind.i64.wrap ((m : Int) - (x : Int)) = ((m - x : Nat) : Int) := by rw [wrapS _ ⟨by omega,by omega⟩];omega
   have eR : IntKind.i64.wrap ((y : Int) - (m : Int)) = ((y - m : Nat) : Int) := by rw [wrapS _ ⟨by omega,by omega⟩];omega
   have em1 : IntKind.i64.wrap ((m : Int) + 1) = ((m + 1 : Nat) : Int) := by rw [wrapS _ ⟨by omega,by omega⟩];omega
   have lbL : Lb c2 x m := fun h0 k k1 k2=>hlbx h0 k k1 (by omega)
   have lbR : Lb c2 (m + 1) y := fun h0 k k1 k2=>hPt.right k (by omega) k2
   intro _;refine ⟨by omega,?_⟩
   intro _;refine ⟨fun g=>?_,fun g=>?_⟩
   ·intro _
    refine call_mut [(0,some 0)] (ih (m - x) (by omega) c2 hB_c2 x m (IntKind.i64.wrap (lm - 1)) (Nat.le_refl _) (by omega) (by omega) (by omega) lbL) rfl rfl rfl rfl ?_ ?_ ?_
    ·and_intros<;>try first|exact trivial|exact rfl
    ·and_intros<;>try first|exact trivial|exact rfl
     exact hcl
    intro v h' ⟨c3,⟨hp3,hs3⟩,hv,hd⟩
    subst hv
    refine ⟨_,mut1 hd,rfl,?_⟩
    have hPt3 : Pt x y m c3 := hPt.left' (by omega) hp3
    have hO3 : Ou a b x y c3 := hO.pm (by omega) (hp3.wide (Nat.le_refl _) (by omega))
    have hc3 : Pm a b l c3 := hc.trans (hp3.wide hO.aa (by omega))
    refine ⟨⟨(m + 1,y,IntKind.i64.wrap (lm - 1),decide (IntKind.i64.wrap ((m : Int) - (x : Int)) ≥ IntKind.i64.wrap ((IntKind.i64.wrap ((y : Int) - (x : Int))).tdiv 8)),q,c3),hc3,hO3.left hPt3 hs3⟩,by show y - (m + 1) < y - x;omega,th [] 1,rfl,rfl,rfl,rfl,rfl,rfl,?_,?_⟩
    ·and_intros<;>try first|exact trivial|exact rfl
     exact em1.symm
    ·and_intros<;>try first|exact trivial|exact rfl
   intro _
   refine call_mut [(0,some 0)] (ih (y - (m + 1)) (by omega) c2 hB_c2 (m + 1) y (IntKind.i64.wrap (lm - 1)) (Nat.le_refl _) (by omega) (by omega) (by omega) lbR) rfl rfl rfl rfl ?_ ?_ ?_
   ·and_intros<;>try first|exact trivial|exact rfl
   ·and_intros<;>try first|exact trivial|exact rfl
    ·exact hcl
    ·exact em1.symm
   intro v h' ⟨c3,⟨hp3,hs3⟩,hv,hd⟩
   subst hv
   refine ⟨_,mut1 hd,rfl,?_⟩
   have hPt3 : Pt x y m c3 := hPt.right' (by omega) hp3
   have hO3 : Ou a b x y c3 := hO.pm (by omega) (hp3.wide (by omega) (Nat.le_refl _))
   have hc3 : Pm a b l c3 := hc.trans (hp3.wide (by omega) hO.bb)
   refine ⟨⟨(x,m,IntKind.i64.wrap (lm - 1),decide (IntKind.i64.wrap ((y : Int) - (m : Int)) ≥ IntKind.i64.wrap ((IntKind.i64.wrap ((y : Int) - (x : Int))).tdiv 8)),q,c3),hc3,hO3.right hPt3 hs3⟩,by show m - x < y - x;omega,th [] 1,rfl,rfl,rfl,rfl,rfl,rfl,?_,?_⟩
   ·and_intros<;>try first|exact trivial|exact rfl
   ·and_intros<;>try first|exact trivial|exact rfl
  intro _;refine ⟨fun g=>?_,fun g=>?_⟩
  ·exact absurd (show wb = true from g) (by rw [hwb];decide)
  intro _;refine ⟨fun g=>?_,fun g=>?_⟩
  ·have g0 := of_decide_eq_true (show decide ((x : Int) > 0) = true from g)
   have ex : IntKind.i64.wrap ((x : Int) - 1) = (x : Int) - 1 := wrapS _ ⟨by omega,by omega⟩
   have n1 : (IntKind.i64.wrap ((x : Int) - 1)).toNat = x - 1 := by rw [ex];omega
   have eP : (p : Int) = ((p : Nat) : Int) := rfl
   have nP : ((p : Int)).toNat = p := by rw [eP];rfl
   intro _;refine ⟨show 0≤IntKind.i64.wrap ((x : Int) - 1)∧IntKind.i64.wrap ((x : Int) - 1) < (l.length : Int) by rw [ex];omega,?_⟩
   intro _;refine ⟨show (IntKind.i64.wrap ((x : Int) - 1)).toNat < c1.length by rw [n1];omega,?_⟩
   intro _;refine ⟨show 0≤(p : Int)∧(p : Int) < (l.length : Int) by rw [eP];omega,?_⟩
   intro _;refine ⟨show ((p : Int)).toNat < c1.length by rw [nP];omega,?_⟩
   intro _
   refine Or.inl ?_
   intro _
   refine call_pure [] (less_ok (raw c1 (x - 1)) (raw c1 (p)) (hB_c1.at _) (hB_c1.at _)) rfl rfl rfl ?_ ?_ ?_
   ·and_intros<;>try first|exact trivial|exact rfl
   ·and_intros<;>try first|exact trivial|exact rfl
    show raw c1 (x - 1) = c1.getD (IntKind.i64.wrap ((x : Int) - 1)).toNat 0
    rw [n1];rfl
   intro v hv _
   subst hv
   intro _;refine ⟨by kernel_rfl,?_⟩
   intro _;refine ⟨fun g=>?_,fun g=>?_⟩
   ·have g2 : (!decide (nr (raw c1 (x - 1)) (raw c1 (p)) < 0)) = true := g
    rw [Bool.not_eq_true'] at g2
    have g2 : ¬ at' c1 (x - 1) < at' c1 (p) := fun q=>absurd (nr_lt.2 q) (of_decide_eq_false g2)
    intro _
    refine call_mut [(0,some 0)] (parteq_ok c1 hB_c1 x y (p) (by omega) (by omega) (by omega) (by omega)) rfl rfl rfl rfl ?_ ?_ ?_
    ·and_intros<;>try first|exact trivial|exact rfl
    ·and_intros<;>try first|exact trivial|exact rfl
     exact hcl
    intro v h' ⟨c2,m,⟨hp2,hm1,hm2,hq1,hq2⟩,hv,hd⟩
    subst hv
    refine ⟨_,mut1 hd,rfl,?_⟩
    have hvx : at' c1 (p)≤at' c2 (x - 1) := by rw [hp2.out (x - 1) (.inl (by omega))];omega
    have hO : Ou a b x y c2 := hO.pm (by omega) hp2
    have hc : Pm a b l c2 := hc.trans (hp2.wide hO.aa hO.bb)
    have hcl : c2.length = l.length := hc.len
    have hB_c2 : Bd c2 := hc.bd hB_l
    have hlbx : Lb c2 x y := hO.lb (hlb.pm hc hab hb)
    have hOe : Ou a b m y c2 := hO.eq hlbx (by omega) hm1 hm2 hvx hq1 hq2
    refine ⟨⟨(m,y,IntKind.i64.wrap (lm - 1),wb,wp,c2),hc,hOe⟩,by show y - m < y - x;omega,th [] 1,rfl,rfl,rfl,rfl,rfl,rfl,?_,?_⟩
    ·and_intros<;>try first|exact trivial|exact rfl
    ·and_intros<;>try first|exact trivial|exact rfl
   intro _
   refine call_mut [(0,some 0)] (part_ok c1 hB_c1 x y (p) (by omega) (by omega) (by omega) (by omega)) rfl rfl rfl rfl ?_ ?_ ?_
   ·and_intros<;>try first|exact trivial|exact rfl
   ·and_intros<;>try first|exact trivial|exact rfl
    exact hcl
   intro v h' ⟨c2,m,q,⟨hp2,hPt⟩,hv,hd⟩
   subst hv
   refine ⟨_,mut1 hd,rfl,?_⟩
   have hO : Ou a b x y c2 := hO.pm (by omega) hp2
   have hc : Pm a b l c2 := hc.trans (hp2.wide hO.aa hO.bb)
   have hcl : c2.length = l.length := hc.len
   have hB_c2 : Bd c2 := hc.bd hB_l
   have hlbx : Lb c2 x y := hO.lb (hlb.pm hc hab hb)
   have m1 := hPt.am
   have m2 := hPt.mb
   have eL : IntKind.i64.wrap ((m : Int) - (x : Int)) = ((m - x : Nat) : Int) := by rw [wrapS _ ⟨by omega,by omega⟩];omega
   have eR : IntKind.i64.wrap ((y : Int) - (m : Int)) = ((y - m : Nat) : Int) := by rw [wrapS _ ⟨by omega,by omega⟩];omega
   have em1 : IntKind.i64.wrap ((m : Int) + 1) = ((m + 1 : Nat) : Int) := by rw [wrapS _ ⟨by omega,by omega⟩];omega
   have lbL : Lb c2 x m := fun h0 k k1 k2=>hlbx h0 k k1 (by omega)
   have lbR : Lb c2 (m + 1) y := fun h0 k k1 k2=>hPt.right k (by omega) k2
   intro _;refine ⟨by omega,?_⟩
   intro _;refine ⟨fun g=>?_,fun g=>?_⟩
   ·intro _
    refine call_mut [(0,some 0)] (ih (m - x) (by omega) c2 hB_c2 x m (IntKind.i64.wrap (lm - 1)) (Nat.le_refl _) (by omega) (by omega) (by omega) lbL) rfl rfl rfl rfl ?_ ?_ ?_
    ·and_intros<;>try first|exact trivial|exact rfl
    ·and_intros<;>try first|exact trivial|exact rfl
     exact hcl
    intro v h' ⟨c3,⟨hp3,hs3⟩,hv,hd⟩
    subst hv
    refine ⟨_,mut1 hd,rfl,?_⟩
    have hPt3 : Pt x y m c3 := hPt.left' (by omega) hp3
    have hO3 : Ou a b x y c3 := hO.pm (by omega) (hp3.wide (Nat.le_refl _) (by omega))
    have hc3 : Pm a b l c3 := hc.trans (hp3.wide hO.aa (by omega))
    refine ⟨⟨(m + 1,y,IntKind.i64.wrap (lm - 1),decide (IntKind.i64.wrap ((m : Int) - (x : Int)) ≥ IntKind.i64.wrap ((IntKind.i64.wrap ((y : Int) - (x : Int))).tdiv 8)),q,c3),hc3,hO3.left hPt3 hs3⟩,by show y - (m + 1) < y - x;omega,th [] 1,rfl,rfl,rfl,rfl,rfl,rfl,?_,?_⟩
    ·and_intros<;>try first|exact trivial|exact rfl
     exact em1.symm
    ·and_intros<;>try first|exact trivial|exact rfl
   intro _
   refine call_mut [(0,some 0)] (ih (y - (m + 1)) (by omega) c2 hB_c2 (m + 1) y (IntKind.i64.wrap (lm - 1)) (Nat.le_refl _) (by omega) (by omega) (by omega) lbR) rfl rfl rfl rfl ?_ ?_ ?_
   ·and_intros<;>try first|exact trivial|exact rfl
   ·and_intros<;>try first|exact trivial|exact rfl
    ·exact hcl
    ·exact em1.symm
   intro v h' ⟨c3,⟨hp3,hs3⟩,hv,hd⟩
   subst hv
   refine ⟨_,mut1 hd,rfl,?_⟩
   have hPt3 : Pt x y m c3 := hPt.right' (by omega) hp3
   have hO3 : Ou a b x y c3 := hO.pm (by omega) (hp3.wide (by omega) (Nat.le_refl _))
   have hc3 : Pm a b l c3 := hc.trans (hp3.wide (by omega) hO.bb)
   refine ⟨⟨(x,m,IntKind.i64.wrap (lm - 1),decide (IntKind.i64.wrap ((y : Int) - (m : Int)) ≥ IntKind.i64.wrap ((IntKind.i64.wrap ((y : Int) - (x : Int))).tdiv 8)),q,c3),hc3,hO3.right hPt3 hs3⟩,by show m - x < y - x;omega,th [] 1,rfl,rfl,rfl,rfl,rfl,rfl,?_,?_⟩
   ·and_intros<;>try first|exact trivial|exact rfl
   ·and_intros<;>try first|exact trivial|exact rfl
  intro _;refine ⟨by kernel_rfl,?_⟩
  intro _
  refine call_mut [(0,some 0)] (part_ok c1 hB_c1 x y (p) (by omega) (by omega) (by omega) (by omega)) rfl rfl rfl rfl ?_ ?_ ?_
  ·and_intros<;>try first|exact trivial|exact rfl
  ·and_intros<;>try first|exact trivial|exact rfl
   exact hcl
  intro v h' ⟨c2,m,q,⟨hp2,hPt⟩,hv,hd⟩
  subst hv
  refine ⟨_,mut1 hd,rfl,?_⟩
  have hO : Ou a b x y c2 := hO.pm (by omega) hp2
  have hc : Pm a b l c2 := hc.trans (hp2.wide hO.aa hO.bb)
  have hcl : c2.length = l.length := hc.len
  have hB_c2 : Bd c2 := hc.bd hB_l
  have hlbx : Lb c2 x y := hO.lb (hlb.pm hc hab hb)
  have m1 := hPt.am
  have m2 := hPt.mb
  have eL : IntKind.i64.wrap ((m : Int) - (x : Int)) = ((m - x : Nat) : Int) := by rw [wrapS _ ⟨by omega,by omega⟩];omega
  have eR : IntKind.i64.wrap ((y : Int) - (m : Int)) = ((y - m : Nat) : Int) := by rw [wrapS _ ⟨by omega,by omega⟩];omega
  have em1 : IntKind.i64.wrap ((m : Int) + 1) = ((m + 1 : Nat) : Int) := by rw [wrapS _ ⟨by omega,by omega⟩];omega
  have lbL : Lb c2 x m := fun h0 k k1 k2=>hlbx h0 k k1 (by omega)
  have lbR : Lb c2 (m + 1) y := fun h0 k k1 k2=>hPt.right k (by omega) k2
  intro _;refine ⟨by omega,?_⟩
  intro _;refine ⟨fun g=>?_,fun g=>?_⟩
  ·intro _
   refine call_mut [(0,some 0)] (ih (m - x) (by omega) c2 hB_c2 x m (IntKind.i64.wrap (lm - 1)) (Nat.le_refl _) (by omega) (by omega) (by omega) lbL) rfl rfl rfl rfl ?_ ?_ ?_
   ·and_intros<;>try first|exact trivial|exact rfl
   ·and_intros<;>try first|exact trivial|exact rfl
    exact hcl
   intro v h' ⟨c3,⟨hp3,hs3⟩,hv,hd⟩
   subst hv
   refine ⟨_,mut1 hd,rfl,?_⟩
   have hPt3 : Pt x y m c3 := hPt.left' (by omega) hp3
   have hO3 : Ou a b x y c3 := hO.pm (by omega) (hp3.wide (Nat.le_refl _) (by omega))
   have hc3 : Pm a b l c3 := hc.trans (hp3.wide hO.aa (by omega))
   refine ⟨⟨(m + 1,y,IntKind.i64.wrap (lm - 1),decide (IntKind.i64.wrap ((m : Int) - (x : Int)) ≥ IntKind.i64.wrap ((IntKind.i64.wrap ((y : Int) - (x : Int))).tdiv 8)),q,c3),hc3,hO3.left hPt3 hs3⟩,by show y - (m + 1) < y - x;omega,th [] 1,rfl,rfl,rfl,rfl,rfl,rfl,?_,?_⟩
   ·and_intros<;>try first|exact trivial|exact rfl
    exact em1.symm
   ·and_intros<;>try first|exact trivial|exact rfl
  intro _
  refine call_mut [(0,some 0)] (ih (y - (m + 1)) (by omega) c2 hB_c2 (m + 1) y (IntKind.i64.wrap (lm - 1)) (Nat.le_refl _) (by omega) (by omega) (by omega) lbR) rfl rfl rfl rfl ?_ ?_ ?_
  ·and_intros<;>try first|exact trivial|exact rfl
  ·and_intros<;>try first|exact trivial|exact rfl
   ·exact hcl
   ·exact em1.symm
  intro v h' ⟨c3,⟨hp3,hs3⟩,hv,hd⟩
  subst hv
  refine ⟨_,mut1 hd,rfl,?_⟩
  have hPt3 : Pt x y m c3 := hPt.right' (by omega) hp3
  have hO3 : Ou a b x y c3 := hO.pm (by omega) (hp3.wide (by omega) (Nat.le_refl _))
  have hc3 : Pm a b l c3 := hc.trans (hp3.wide (by omega) hO.bb)
  refine ⟨⟨(x,m,IntKind.i64.wrap (lm - 1),decide (IntKind.i64.wrap ((y : Int) - (m : Int)) ≥ IntKind.i64.wrap ((IntKind.i64.wrap ((y : Int) - (x : Int))).tdiv 8)),q,c3),hc3,hO3.right hPt3 hs3⟩,by show m - x < y - x;omega,th [] 1,rfl,rfl,rfl,rfl,rfl,rfl,?_,?_⟩
  ·and_intros<;>try first|exact trivial|exact rfl
  ·and_intros<;>try first|exact trivial|exact rfl
 have g : (!wb) = false := g
 rw [Bool.not_eq_false'] at g
 have hwb : wb = true := g
 intro _
 refine call_mut [(0,some 0)] (pivot_ok c hB_c x y (by omega) (by omega) (by omega)) rfl rfl rfl rfl ?_ ?_ ?_
 ·and_intros<;>try first|exact trivial|exact rfl
 ·and_intros<;>try first|exact trivial|exact rfl
  exact hcl
 intro v h' ⟨p,k,hpp,hk,hv,hd⟩
 subst hv
 refine ⟨_,mut1 hd,rfl,?_⟩
 intro _;refine ⟨fun g=>?_,fun g=>?_⟩
 ·intro _
  refine call_mut [(0,some 0)] (rev_ok c hB_c x y (by omega) (by omega) (by omega)) rfl rfl rfl rfl ?_ ?_ ?_
  ·and_intros<;>try first|exact trivial|exact rfl
  ·and_intros<;>try first|exact trivial|exact rfl
   exact hcl
  intro v h' ⟨c5,hp5,hv,hd⟩
  subst hv
  refine ⟨_,mut1 hd,rfl,?_⟩
  have hO : Ou a b x y c5 := hO.pm (by omega) hp5
  have hc : Pm a b l c5 := hc.trans (hp5.wide hO.aa hO.bb)
  have hcl : c5.length = l.length := hc.len
  have hB_c5 : Bd c5 := hc.bd hB_l
  have hlbx : Lb c5 x y := hO.lb (hlb.pm hc hab hb)
  have eqP : ((y - 1 - (p - x) : Nat) : Int) = IntKind.i64.wrap (IntKind.i64.wrap ((y : Int) - 1) - IntKind.i64.wrap ((p : Int) - (x : Int))) := by
   rw [wrapS ((y : Int) - 1) ⟨by omega,by omega⟩,wrapS ((p : Int) - (x : Int)) ⟨by omega,by omega⟩,wrapS _ ⟨by omega,by omega⟩];omega
  intro _;refine ⟨fun g=>?_,fun g=>?_⟩
  ·intro _;refine ⟨fun g=>?_,fun g=>?_⟩
   ·intro _;refine ⟨fun g=>?_,fun g=>?_⟩
    ·intro _
     refine call_mut [(0,some 0)] (pins_ok c5 hB_c5 x y (by omega) (by omega) (by omega) hlbx) rfl rfl rfl rfl ?_ ?_ ?_
     ·and_intros<;>try first|exact trivial|exact rfl
     ·and_intros<;>try first|exact trivial|exact rfl
      exact hcl
     intro v h' ⟨c4,q4,⟨hp4,hs4⟩,hv,hd⟩
     subst hv
     refine ⟨_,mut1 hd,rfl,?_⟩
     have hO : Ou a b x y c4 := hO.pm (by omega) hp4
     have hc : Pm a b l c4 := hc.trans (hp4.wide hO.aa hO.bb)
     have hcl : c4.length = l.length := hc.len
     have hB_c4 : Bd c4 := hc.bd hB_l
     have hlbx : Lb c4 x y := hO.lb (hlb.pm hc hab hb)
     cases q4 with
     | true =>
      intro _
      exact ⟨c4,⟨hc,hO.fin (hs4 rfl)⟩,rfl,rfl⟩
     | false =>
      intro _;refine ⟨fun g=>?_,fun g=>?_⟩
      ·have g0 := of_decide_eq_true (show decide ((x : Int) > 0) = true from g)
       have ex : IntKind.i64.wrap ((x : Int) - 1) = (x : Int) - 1 := wrapS _ ⟨by omega,by omega⟩
       have n1 : (IntKind.i64.wrap ((x : Int) - 1)).toNat = x - 1 := by rw [ex];omega
       have eP : IntKind.i64.wrap (IntKind.i64.wrap ((y : Int) - 1) - IntKind.i64.wrap ((p : Int) - (x : Int))) = ((y - 1 - (p - x) : Nat) : Int) := (eqP).symm
       have nP : (IntKind.i64.wrap (IntKind.i64.wrap ((y : Int) - 1) - IntKind.i64.wrap ((p : Int) - (x : Int)))).toNat = y - 1 - (p - x) := by rw [eP];rfl
       intro _;refine ⟨show 0≤IntKind.i64.wrap ((x : Int) - 1)∧IntKind.i64.wrap ((x : Int) - 1) < (l.length : Int) by rw [ex];omega,?_⟩
       intro _;refine ⟨show (IntKind.i64.wrap ((x : Int) - 1)).toNat < c4.length by rw [n1];omega,?_⟩
       intro _;refine ⟨show 0≤IntKind.i64.wrap (IntKind.i64.wrap ((y : Int) - 1) - IntKind.i64.wrap ((p : Int) - (x : Int)))∧IntKind.i64.wrap (IntKind.i64.wrap ((y : Int) - 1) - IntKind.i64.wrap ((p : Int) - (x : Int))) < (l.length : Int) by rw [eP];omega,?_⟩
       intro _;refine ⟨show (IntKind.i64.wrap (IntKind.i64.wrap ((y : Int) - 1) - IntKind.i64.wrap ((p : Int) - (x : Int)))).toNat < c4.length by rw [nP];omega,?_⟩
       intro _
       refine Or.inl ?_
       intro _
       refine call_pure [] (less_ok (raw c4 (x - 1)) (raw c4 (y - 1 - (p - x))) (hB_c4.at _) (hB_c4.at _)) rfl rfl rfl ?_ ?_ ?_
       ·and_intros<;>try first|exact trivial|exact rfl
       ·and_intros<;>try first|exact trivial|exact rfl
        show raw c4 (x - 1) = c4.getD (IntKind.i64.wrap ((x : Int) - 1)).toNat 0
        rw [n1];rfl
        show raw c4 (y - 1 - (p - x)) = c4.getD (IntKind.i64.wrap (IntKind.i64.wrap ((y : Int) - 1) - IntKind.i64.wrap ((p : Int) - (x : Int)))).toNat 0
        rw [nP];rfl
       intro v hv _
       subst hv
       intro _;refine ⟨by kernel_rfl,?_⟩
       intro _;refine ⟨fun g=>?_,fun g=>?_⟩
       ·have g2 : (!decide (nr (raw c4 (x - 1)) (raw c4 (y - 1 - (p - x))) < 0)) = true := g
        rw [Bool.not_eq_true'] at g2
        have g2 : ¬ at' c4 (x - 1) < at' c4 (y - 1 - (p - x)) := fun q=>absurd (nr_lt.2 q) (of_decide_eq_false g2)
        intro _
        refine call_mut [(0,some 0)] (parteq_ok c4 hB_c4 x y (y - 1 - (p - x)) (by omega) (by omega) (by omega) (by omega)) rfl rfl rfl rfl ?_ ?_ ?_
        ·and_intros<;>try first|exact trivial|exact rfl
        ·and_intros<;>try first|exact trivial|exact rfl
         ·exact hcl
         ·exact eqP
        intro v h' ⟨c2,m,⟨hp2,hm1,hm2,hq1,hq2⟩,hv,hd⟩
        subst hv
        refine ⟨_,mut1 hd,rfl,?_⟩
        have hvx : at' c4 (y - 1 - (p - x))≤at' c2 (x - 1) := by rw [hp2.out (x - 1) (.inl (by omega))];omega
        have hO : Ou a b x y c2 := hO.pm (by omega) hp2
        have hc : Pm a b l c2 := hc.trans (hp2.wide hO.aa hO.bb)
        have hcl : c2.length = l.length := hc.len
        have hB_c2 : Bd c2 := hc.bd hB_l
        have hlbx : Lb c2 x y := hO.lb (hlb.pm hc hab hb)
        have hOe : Ou a b m y c2 := hO.eq hlbx (by omega) hm1 hm2 hvx hq1 hq2
        refine ⟨⟨(m,y,lm,wb,wp,c2),hc,hOe⟩,by show y - m < y - x;omega,th [] 1,rfl,rfl,rfl,rfl,rfl,rfl,?_,?_⟩
        ·and_intros<;>try first|exact trivial|exact rfl
        ·and_intros<;>try first|exact trivial|exact rfl
       intro _
       refine call_mut [(0,some 0)] (part_ok c4 hB_c4 x y (y - 1 - (p - x)) (by omega) (by omega) (by omega) (by omega)) rfl rfl rfl rfl ?_ ?_ ?_
       ·and_intros<;>try first|exact trivial|exact rfl
       ·and_intros<;>try first|exact trivial|exact rfl
        ·exact hcl
        ·exact eqP
       intro v h' ⟨c2,m,q,⟨hp2,hPt⟩,hv,hd⟩
       subst hv
       refine ⟨_,mut1 hd,rfl,?_⟩
       have hO : Ou a b x y c2 := hO.pm (by omega) hp2
       have hc : Pm a b l c2 := hc.trans (hp2.wide hO.aa hO.bb)
       have hcl : c2.length = l.length := hc.len
       have hB_c2 : Bd c2 := hc.bd hB_l
       have hlbx : Lb c2 x y := hO.lb (hlb.pm hc hab hb)
       have m1 := hPt.am
       have m2 := hPt.mb
       have eL : IntKind.i64.wrap ((m : Int) - (x : Int)) = ((m - x : Nat) : Int) := by rw [wrapS _ ⟨by omega,by omega⟩];omega
       have eR : IntKind.i64.wrap ((y : Int) - (m : Int)) = ((y - m : Nat) : Int) := by rw [wrapS _ ⟨by omega,by omega⟩];omega
       have em1 : IntKind.i64.wrap ((m : Int) + 1) = ((m + 1 : Nat) : Int) := by rw [wrapS _ ⟨by omega,by omega⟩];omega
       have lbL : Lb c2 x m := fun h0 k k1 k2=>hlbx h0 k k1 (by omega)
       have lbR : Lb c2 (m + 1) y := fun h0 k k1 k2=>hPt.right k (by omega) k2
       intro _;refine ⟨by omega,?_⟩
       intro _;refine ⟨fun g=>?_,fun g=>?_⟩
       ·intro _
        refine call_mut [(0,some 0)] (ih (m - x) (by omega) c2 hB_c2 x m (lm) (Nat.le_refl _) (by omega) (by omega) (by omega) lbL) rfl rfl rfl rfl ?_ ?_ ?_
        ·and_intros<;>try first|exact trivial|exact rfl
        ·and_intros<;>try first|exact trivial|exact rfl
         exact hcl
        intro v h' ⟨c3,⟨hp3,hs3⟩,hv,hd⟩
        subst hv
        refine ⟨_,mut1 hd,rfl,?_⟩
        have hPt3 : Pt x y m c3 := hPt.left' (by omega) hp3
        have hO3 : Ou a b x y c3 := hO.pm (by omega) (hp3.wide (Nat.le_refl _) (by omega))
        have hc3 : Pm a b l c3 := hc.trans (hp3.wide hO.aa (by omega))
        refine ⟨⟨(m + 1,y,lm,decide (IntKind.i64.wrap ((m : Int) - (x : Int)) ≥ IntKind.i64.wrap ((IntKind.i64.wrap ((y : Int) - (x : Int))).tdiv 8)),q,c3),hc3,hO3.left hPt3 hs3⟩,by show y - (m + 1) < y - x;omega,th [] 1,rfl,rfl,rfl,rfl,rfl,rfl,?_,?_⟩
        ·and_intros<;>try first|exact trivial|exact rfl
         exact em1.symm
        ·and_intros<;>try first|exact trivial|exact rfl
       intro _
       refine call_mut [(0,some 0)] (ih (y - (m + 1)) (by omega) c2 hB_c2 (m + 1) y (lm) (Nat.le_refl _) (by omega) (by omega) (by omega) lbR) rfl rfl rfl rfl ?_ ?_ ?_
       ·and_intros<;>try first|exact trivial|exact rfl
       ·and_intros<;>try first|exact trivial|exact rfl
        ·exact hcl
        ·exact em1.symm
       intro v h' ⟨c3,⟨hp3,hs3⟩,hv,hd⟩
       subst hv
       refine ⟨_,mut1 hd,rfl,?_⟩
       have hPt3 : Pt x y m c3 := hPt.right' (by omega) hp3
       have hO3 : Ou a b x y c3 := hO.pm (by omega) (hp3.wide (by omega) (Nat.le_refl _))
       have hc3 : Pm a b l c3 := hc.trans (hp3.wide (by omega) hO.bb)
       refine ⟨⟨(x,m,lm,decide (IntKind.i64.wrap ((y : Int) - (m : Int)) ≥ IntKind.i64.wrap ((IntKind.i64.wrap ((y : Int) - (x : Int))).tdiv 8)),q,c3),hc3,hO3.right hPt3 hs3⟩,by show m - x < y - x;omega,th [] 1,rfl,rfl,rfl,rfl,rfl,rfl,?_,?_⟩
       ·and_intros<;>try first|exact trivial|exact rfl
       ·and_intros<;>try first|exact trivial|exact rfl
      intro _;refine ⟨by kernel_rfl,?_⟩
      intro _
      refine call_mut [(0,some 0)] (part_ok c4 hB_c4 x y (y - 1 - (p - x)) (by omega) (by omega) (by omega) (by omega)) rfl rfl rfl rfl ?_ ?_ ?_
      ·and_intros<;>try first|exact trivial|exact rfl
      ·and_intros<;>try first|exact trivial|exact rfl
       ·exact hcl
       ·exact eqP
      intro v h' ⟨c2,m,q,⟨hp2,hPt⟩,hv,hd⟩
      subst hv
      refine ⟨_,mut1 hd,rfl,?_⟩
      have hO : Ou a b x y c2 := hO.pm (by omega) hp2
      have hc : Pm a b l c2 := hc.trans (hp2.wide hO.aa hO.bb)
      have hcl : c2.length = l.length := hc.len
      have hB_c2 : Bd c2 := hc.bd hB_l
      have hlbx : Lb c2 x y := hO.lb (hlb.pm hc hab hb)
      have m1 := hPt.am
      have m2 := hPt.mb
      have eL : IntKind.i64.wrap ((m : Int) - (x : Int)) = ((m - x : Nat) : Int) := by rw [wrapS _ ⟨by omega,by omega⟩];omega
      have eR : IntKind.i64.wrap ((y : Int) - (m : Int)) = ((y - m : Nat) : Int) := by rw [wrapS _ ⟨by omega,by omega⟩];omega
      have em1 : IntKind.i64.wrap ((m : Int) + 1) = ((m + 1 : Nat) : Int) := by rw [wrapS _ ⟨by omega,by omega⟩];omega
      have lbL : Lb c2 x m := fun h0 k k1 k2=>hlbx h0 k k1 (by omega)
      have lbR : Lb c2 (m + 1) y := fun h0 k k1 k2=>hPt.right k (by omega) k2
      intro _;refine ⟨by omega,?_⟩
      intro _;refine ⟨fun g=>?_,fun g=>?_⟩
      ·intro _
       refine call_mut [(0,some 0)] (ih (m - x) (by omega) c2 hB_c2 x m (lm) (Nat.le_refl _) (by omega) (by omega) (by omega) lbL) rfl rfl rfl rfl ?_ ?_ ?_
       ·and_intros<;>try first|exact trivial|exact rfl
       ·and_intros<;>try first|exact trivial|exact rfl
        exact hcl
       intro v h' ⟨c3,⟨hp3,hs3⟩,hv,hd⟩
       subst hv
       refine ⟨_,mut1 hd,rfl,?_⟩
       have hPt3 : Pt x y m c3 := hPt.left' (by omega) hp3
       have hO3 : Ou a b x y c3 := hO.pm (by omega) (hp3.wide (Nat.le_refl _) (by omega))
       have hc3 : Pm a b l c3 := hc.trans (hp3.wide hO.aa (by omega))
       refine ⟨⟨(m + 1,y,lm,decide (IntKind.i64.wrap ((m : Int) - (x : Int)) ≥ IntKind.i64.wrap ((IntKind.i64.wrap ((y : Int) - (x : Int))).tdiv 8)),q,c3),hc3,hO3.left hPt3 hs3⟩,by show y - (m + 1) < y - x;omega,th [] 1,rfl,rfl,rfl,rfl,rfl,rfl,?_,?_⟩
       ·and_intros<;>try first|exact trivial|exact rfl
        exact em1.symm
       ·and_intros<;>try first|exact trivial|exact rfl
      intro _
      refine call_mut [(0,some 0)] (ih (y - (m + 1)) (by omega) c2 hB_c2 (m + 1) y (lm) (Nat.le_refl _) (by omega) (by omega) (by omega) lbR) rfl rfl rfl rfl ?_ ?_ ?_
      ·and_intros<;>try first|exact trivial|exact rfl
      ·and_intros<;>try first|exact trivial|exact rfl
       ·exact hcl
       ·exact em1.symm
      intro v h' ⟨c3,⟨hp3,hs3⟩,hv,hd⟩
      subst hv
      refine ⟨_,mut1 hd,rfl,?_⟩
      have hPt3 : Pt x y m c3 := hPt.right' (by omega) hp3
      have hO3 : Ou a b x y c3 := hO.pm (by omega) (hp3.wide (by omega) (Nat.le_refl _))
      have hc3 : Pm a b l c3 := hc.trans (hp3.wide (by omega) hO.bb)
      refine ⟨⟨(x,m,lm,decide (IntKind.i64.wrap ((y : Int) - (m : Int)) ≥ IntKind.i64.wrap ((IntKind.i64.wrap ((y : Int) - (x : Int))).tdiv 8)),q,c3),hc3,hO3.right hPt3 hs3⟩,by show m - x < y - x;omega,th [] 1,rfl,rfl,rfl,rfl,rfl,rfl,?_,?_⟩
      ·and_intros<;>try first|exact trivial|exact rfl
      ·and_intros<;>try first|exact trivial|exact rfl
    intro _;refine ⟨fun g=>?_,fun g=>?_⟩
    ·have g0 := of_decide_eq_true (show decide ((x : Int) > 0) = true from g)
     have ex : IntKind.i64.wrap ((x : Int) - 1) = (x : Int) - 1 := wrapS _ ⟨by omega,by omega⟩
     have n1 : (IntKind.i64.wrap ((x : Int) - 1)).toNat = x - 1 := by rw [ex];omega
     have eP : IntKind.i64.wrap (IntKind.i64.wrap ((y : Int) - 1) - IntKind.i64.wrap ((p : Int) - (x : Int))) = ((y - 1 - (p - x) : Nat) : Int) := (eqP).symm
     have nP : (IntKind.i64.wrap (IntKind.i64.wrap ((y : Int) - 1) - IntKind.i64.wrap ((p : Int) - (x : Int)))).toNat = y - 1 - (p - x) := by rw [eP];rfl
     intro _;refine ⟨show 0≤IntKind.i64.wrap ((x : Int) - 1)∧IntKind.i64.wrap ((x : Int) - 1) < (l.length : Int) by rw [ex];omega,?_⟩
     intro _;refine ⟨show (IntKind.i64.wrap ((x : Int) - 1)).toNat < c5.length by rw [n1];omega,?_⟩
     intro _;refine ⟨show 0≤IntKind.i64.wrap (IntKind.i64.wrap ((y : Int) - 1) - IntKind.i64.wrap ((p : Int) - (x : Int)))∧IntKind.i64.wrap (IntKind.i64.wrap ((y : Int) - 1) - IntKind.i64.wrap ((p : Int) - (x : Int))) < (l.length : Int) by rw [eP];omega,?_⟩
     intro _;refine ⟨show (IntKind.i64.wrap (IntKind.i64.wrap ((y : Int) - 1) - IntKind.i64.wrap ((p : Int) - (x : Int)))).toNat < c5.length by rw [nP];omega,?_⟩
     intro _
     refine Or.inl ?_
     intro _
     refine call_pure [] (less_ok (raw c5 (x - 1)) (raw c5 (y - 1 - (p - x))) (hB_c5.at _) (hB_c5.at _)) rfl rfl rfl ?_ ?_ ?_
     ·and_intros<;>try first|exact trivial|exact rfl
     ·and_intros<;>try first|exact trivial|exact rfl
      show raw c5 (x - 1) = c5.getD (IntKind.i64.wrap ((x : Int) - 1)).toNat 0
      rw [n1];rfl
      show raw c5 (y - 1 - (p - x)) = c5.getD (IntKind.i64.wrap (IntKind.i64.wrap ((y : Int) - 1) - IntKind.i64.wrap ((p : Int) - (x : Int)))).toNat 0
      rw [nP];rfl
     intro v hv _
     subst hv
     intro _;refine ⟨by kernel_rfl,?_⟩
     intro _;refine ⟨fun g=>?_,fun g=>?_⟩
     ·have g2 : (!decide (nr (raw c5 (x - 1)) (raw c5 (y - 1 - (p - x))) < 0)) = true := g
      rw [Bool.not_eq_true'] at g2
      have g2 : ¬ at' c5 (x - 1) < at' c5 (y - 1 - (p - x)) := fun q=>absurd (nr_lt.2 q) (of_decide_eq_false g2)
      intro _
      refine call_mut [(0,some 0)] (parteq_ok c5 hB_c5 x y (y - 1 - (p - x)) (by omega) (by omega) (by omega) (by omega)) rfl rfl rfl rfl ?_ ?_ ?_
      ·and_intros<;>try first|exact trivial|exact rfl
      ·and_intros<;>try first|exact trivial|exact rfl
       ·exact hcl
       ·exact eqP
      intro v h' ⟨c2,m,⟨hp2,hm1,hm2,hq1,hq2⟩,hv,hd⟩
      subst hv
      refine ⟨_,mut1 hd,rfl,?_⟩
      have hvx : at' c5 (y - 1 - (p - x))≤at' c2 (x - 1) := by rw [hp2.out (x - 1) (.inl (by omega))];omega
      have hO : Ou a b x y c2 := hO.pm (by omega) hp2
      have hc : Pm a b l c2 := hc.trans (hp2.wide hO.aa hO.bb)
      have hcl : c2.length = l.length := hc.len
      have hB_c2 : Bd c2 := hc.bd hB_l
      have hlbx : Lb c2 x y := hO.lb (hlb.pm hc hab hb)
      have hOe : Ou a b m y c2 := hO.eq hlbx (by omega) hm1 hm2 hvx hq1 hq2
      refine ⟨⟨(m,y,lm,wb,wp,c2),hc,hOe⟩,by show y - m < y - x;omega,th [] 1,rfl,rfl,rfl,rfl,rfl,rfl,?_,?_⟩
      ·and_intros<;>try first|exact trivial|exact rfl
      ·and_intros<;>try first|exact trivial|exact rfl
     intro _
     refine call_mut [(0,some 0)] (part_ok c5 hB_c5 x y (y - 1 - (p - x)) (by omega) (by omega) (by omega) (by omega)) rfl rfl rfl rfl ?_ ?_ ?_
     ·and_intros<;>try first|exact trivial|exact rfl
     ·and_intros<;>try first|exact trivial|exact rfl
      ·exact hcl
      ·exact eqP
     intro v h' ⟨c2,m,q,⟨hp2,hPt⟩,hv,hd⟩
     subst hv
     refine ⟨_,mut1 hd,rfl,?_⟩
     have hO : Ou a b x y c2 := hO.pm (by omega) hp2
     have hc : Pm a b l c2 := hc.trans (hp2.wide hO.aa hO.bb)
     have hcl : c2.length = l.length := hc.len
     have hB_c2 : Bd c2 := hc.bd hB_l
     have hlbx : Lb c2 x y := hO.lb (hlb.pm hc hab hb)
     have m1 := hPt.am
     have m2 := hPt.mb
     have eL : IntKind.i64.wrap ((m : Int) - (x : Int)) = ((m - x : Nat) : Int) := by rw [wrapS _ ⟨by omega,by omega⟩];omega
     have eR : IntKind.i64.wrap ((y : Int) - (m : Int)) = ((y - m : Nat) : Int) := by rw [wrapS _ ⟨by omega,by omega⟩];omega
     have em1 : IntKind.i64.wrap ((m : Int) + 1) = ((m + 1 : Nat) : Int) := by rw [wrapS _ ⟨by omega,by omega⟩];omega
     have lbL : Lb c2 x m := fun h0 k k1 k2=>hlbx h0 k k1 (by omega)
     have lbR : Lb c2 (m + 1) y := fun h0 k k1 k2=>hPt.right k (by omega) k2
     intro _;refine ⟨by omega,?_⟩
     intro _;refine ⟨fun g=>?_,fun g=>?_⟩
     ·intro _
      refine call_mut [(0,some 0)] (ih (m - x) (by omega) c2 hB_c2 x m (lm) (Nat.le_refl _) (by omega) (by omega) (by omega) lbL) rfl rfl rfl rfl ?_ ?_ ?_
      ·and_intros<;>try first|exact trivial|exact rfl
      ·and_intros<;>try first|exact trivial|exact rfl
       exact hcl
      intro v h' ⟨c3,⟨hp3,hs3⟩,hv,hd⟩
      subst hv
      refine ⟨_,mut1 hd,rfl,?_⟩
      have hPt3 : Pt x y m c3 := hPt.left' (by omega) hp3
      have hO3 : Ou a b x y c3 := hO.pm (by omega) (hp3.wide (Nat.le_refl _) (by omega))
      have hc3 : Pm a b l c3 := hc.trans (hp3.wide hO.aa (by omega))
      refine ⟨⟨(m + 1,y,lm,decide (IntKind.i64.wrap ((m : Int) - (x : Int)) ≥ IntKind.i64.wrap ((IntKind.i64.wrap ((y : Int) - (x : Int))).tdiv 8)),q,c3),hc3,hO3.left hPt3 hs3⟩,by show y - (m + 1) < y - x;omega,th [] 1,rfl,rfl,rfl,rfl,rfl,rfl,?_,?_⟩
      ·and_intros<;>try first|exact trivial|exact rfl
       exact em1.symm
      ·and_intros<;>try first|exact trivial|exact rfl
     intro _
     refine call_mut [(0,some 0)] (ih (y - (m + 1)) (by omega) c2 hB_c2 (m + 1) y (lm) (Nat.le_refl _) (by omega) (by omega) (by omega) lbR) rfl rfl rfl rfl ?_ ?_ ?_
     ·and_intros<;>try first|exact trivial|exact rfl
     ·and_intros<;>try first|exact trivial|exact rfl
      ·exact hcl
      ·exact em1.symm
     intro v h' ⟨c3,⟨hp3,hs3⟩,hv,hd⟩
     subst hv
     refine ⟨_,mut1 hd,rfl,?_⟩
     have hPt3 : Pt x y m c3 := hPt.right' (by omega) hp3
     have hO3 : Ou a b x y c3 := hO.pm (by omega) (hp3.wide (by omega) (Nat.le_refl _))
     have hc3 : Pm a b l c3 := hc.trans (hp3.wide (by omega) hO.bb)
     refine ⟨⟨(x,m,lm,decide (IntKind.i64.wrap ((y : Int) - (m : Int)) ≥ IntKind.i64.wrap ((IntKind.i64.wrap ((y : Int) - (x : Int))).tdiv 8)),q,c3),hc3,hO3.right hPt3 hs3⟩,by show m - x < y - x;omega,th [] 1,rfl,rfl,rfl,rfl,rfl,rfl,?_,?_⟩
     ·and_intros<;>try first|exact trivial|exact rfl
     ·and_intros<;>try first|exact trivial|exact rfl
    intro _;refine ⟨by kernel_rfl,?_⟩
    intro _
    refine call_mut [(0,some 0)] (part_ok c5 hB_c5 x y (y - 1 - (p - x)) (by omega) (by omega) (by omega) (by omega)) rfl rfl rfl rfl ?_ ?_ ?_
    ·and_intros<;>try first|exact trivial|exact rfl
    ·and_intros<;>try first|exact trivial|exact rfl
     ·exact hcl
     ·exact eqP
    intro v h' ⟨c2,m,q,⟨hp2,hPt⟩,hv,hd⟩
    subst hv
    refine ⟨_,mut1 hd,rfl,?_⟩
    have hO : Ou a b x y c2 := hO.pm (by omega) hp2
    have hc : Pm a b l c2 := hc.trans (hp2.wide hO.aa hO.bb)
    have hcl : c2.length = l.length := hc.len
    have hB_c2 : Bd c2 := hc.bd hB_l
    have hlbx : Lb c2 x y := hO.lb (hlb.pm hc hab hb)
    have m1 := hPt.am
    have m2 := hPt.mb
    have eL : IntKind.i64.wrap ((m : Int) - (x : Int)) = ((m - x : Nat) : Int) := by rw [wrapS _ ⟨by omega,by omega⟩];omega
    have eR : IntKind.i64.wrap ((y : Int) - (m : Int)) = ((y - m : Nat) : Int) := by rw [wrapS _ ⟨by omega,by omega⟩];omega
    have em1 : IntKind.i64.wrap ((m : Int) + 1) = ((m + 1 : Nat) : Int) := by rw [wrapS _ ⟨by omega,by omega⟩];omega
    have lbL : Lb c2 x m := fun h0 k k1 k2=>hlbx h0 k k1 (by omega)
    have lbR : Lb c2 (m + 1) y := fun h0 k k1 k2=>hPt.right k (by omega) k2
    intro _;refine ⟨by omega,?_⟩
    intro _;refine ⟨fun g=>?_,fun g=>?_⟩
    ·intro _
     refine call_mut [(0,some 0)] (ih (m - x) (by omega) c2 hB_c2 x m (lm) (Nat.le_refl _) (by omega) (by omega) (by omega) lbL) rfl rfl rfl rfl ?_ ?_ ?_
     ·and_intros<;>try first|exact trivial|exact rfl
     ·and_intros<;>try first|exact trivial|exact rfl
      exact hcl
     intro v h' ⟨c3,⟨hp3,hs3⟩,hv,hd⟩
     subst hv
     refine ⟨_,mut1 hd,rfl,?_⟩
     have hPt3 : Pt x y m c3 := hPt.left' (by omega) hp3
     have hO3 : Ou a b x y c3 := hO.pm (by omega) (hp3.wide (Nat.le_refl _) (by omega))
     have hc3 : Pm a b l c3 := hc.trans (hp3.wide hO.aa (by omega))
     refine ⟨⟨(m + 1,y,lm,decide (IntKind.i64.wrap ((m : Int) - (x : Int)) ≥ IntKind.i64.wrap ((IntKind.i64.wrap ((y : Int) - (x : Int))).tdiv 8)),q,c3),hc3,hO3.left hPt3 hs3⟩,by show y - (m + 1) < y - x;omega,th [] 1,rfl,rfl,rfl,rfl,rfl,rfl,?_,?_⟩
     ·and_intros<;>try first|exact trivial|exact rfl
      exact em1.symm
     ·and_intros<;>try first|exact trivial|exact rfl
    intro _
    refine call_mut [(0,some 0)] (ih (y - (m + 1)) (by omega) c2 hB_c2 (m + 1) y (lm) (Nat.le_refl _) (by omega) (by omega) (by omega) lbR) rfl rfl rfl rfl ?_ ?_ ?_
    ·and_intros<;>try first|exact trivial|exact rfl
    ·and_intros<;>try first|exact trivial|exact rfl
     ·exact hcl
     ·exact em1.symm
    intro v h' ⟨c3,⟨hp3,hs3⟩,hv,hd⟩
    subst hv
    refine ⟨_,mut1 hd,rfl,?_⟩
    have hPt3 : Pt x y m c3 := hPt.right' (by omega) hp3
    have hO3 : Ou a b x y c3 := hO.pm (by omega) (hp3.wide (by omega) (Nat.le_refl _))
    have hc3 : Pm a b l c3 := hc.trans (hp3.wide (by omega) hO.bb)
    refine ⟨⟨(x,m,lm,decide (IntKind.i64.wrap ((y : Int) - (m : Int)) ≥ IntKind.i64.wrap ((IntKind.i64.wrap ((y : Int) - (x : Int))).tdiv 8)),q,c3),hc3,hO3.right hPt3 hs3⟩,by show m - x < y - x;omega,th [] 1,rfl,rfl,rfl,rfl,rfl,rfl,?_,?_⟩
    ·and_intros<;>try first|exact trivial|exact rfl
    ·and_intros<;>try first|exact trivial|exact rfl
   intro _;refine ⟨fun g=>?_,fun g=>?_⟩
   ·have g0 := of_decide_eq_true (show decide ((x : Int) > 0) = true from g)
    have ex : IntKind.i64.wrap ((x : Int) - 1) = (x : Int) - 1 := wrapS _ ⟨by omega,by omega⟩
    have n1 : (IntKind.i64.wrap ((x : Int) - 1)).toNat = x - 1 := by rw [ex];omega
    have eP : IntKind.i64.wrap (IntKind.i64.wrap ((y : Int) - 1) - IntKind.i64.wrap ((p : Int) - (x : Int))) = ((y - 1 - (p - x) : Nat) : Int) := (eqP).symm
    have nP : (IntKind.i64.wrap (IntKind.i64.wrap ((y : Int) - 1) - IntKind.i64.wrap ((p : Int) - (x : Int)))).toNat = y - 1 - (p - x) := by rw [eP];rfl
    intro _;refine ⟨show 0≤IntKind.i64.wrap ((x : Int) - 1)∧IntKind.i64.wrap ((x : Int) - 1) < (l.length : Int) by rw [ex];omega,?_⟩
    intro _;refine ⟨show (IntKind.i64.wrap ((x : Int) - 1)).toNat < c5.length by rw [n1];omega,?_⟩
    intro _;refine ⟨show 0≤IntKind.i64.wrap (IntKind.i64.wrap ((y : Int) - 1) - IntKind.i64.wrap ((p : Int) - (x : Int)))∧IntKind.i64.wrap (IntKind.i64.wrap ((y : Int) - 1) - IntKind.i64.wrap ((p : Int) - (x : Int))) < (l.length : Int) by rw [eP];omega,?_⟩
    intro _;refine ⟨show (IntKind.i64.wrap (IntKind.i64.wrap ((y : Int) - 1) - IntKind.i64.wrap ((p : Int) - (x : Int)))).toNat < c5.length by rw [nP];omega,?_⟩
    intro _
    refine Or.inl ?_
    intro _
    refine call_pure [] (less_ok (raw c5 (x - 1)) (raw c5 (y - 1 - (p - x))) (hB_c5.at _) (hB_c5.at _)) rfl rfl rfl ?_ ?_ ?_
    ·and_intros<;>try first|exact trivial|exact rfl
    ·and_intros<;>try first|exact trivial|exact rfl
     show raw c5 (x - 1) = c5.getD (IntKind.i64.wrap ((x : Int) - 1)).toNat 0
     rw [n1];rfl
     show raw c5 (y - 1 - (p - x)) = c5.getD (IntKind.i64.wrap (IntKind.i64.wrap ((y : Int) - 1) - IntKind.i64.wrap ((p : Int) - (x : Int)))).toNat 0
     rw [nP];rfl
    intro v hv _
    subst hv
    intro _;refine ⟨by kernel_rfl,?_⟩
    intro _;refine ⟨fun g=>?_,fun g=>?_⟩
    ·have g2 : (!decide (nr (raw c5 (x - 1)) (raw c5 (y - 1 - (p - x))) < 0)) = true := g
     rw [Bool.not_eq_true'] at g2
     have g2 : ¬ at' c5 (x - 1) < at' c5 (y - 1 - (p - x)) := fun q=>absurd (nr_lt.2 q) (of_decide_eq_false g2)
     intro _
     refine call_mut [(0,some 0)] (parteq_ok c5 hB_c5 x y (y - 1 - (p - x)) (by omega) (by omega) (by omega) (by omega)) rfl rfl rfl rfl ?_ ?_ ?_
     ·and_intros<;>try first|exact trivial|exact rfl
     ·and_intros<;>try first|exact trivial|exact rfl
      ·exact hcl
      ·exact eqP
     intro v h' ⟨c2,m,⟨hp2,hm1,hm2,hq1,hq2⟩,hv,hd⟩
     subst hv
     refine ⟨_,mut1 hd,rfl,?_⟩
     have hvx : at' c5 (y - 1 - (p - x))≤at' c2 (x - 1) := by rw [hp2.out (x - 1) (.inl (by omega))];omega
     have hO : Ou a b x y c2 := hO.pm (by omega) hp2
     have hc : Pm a b l c2 := hc.trans (hp2.wide hO.aa hO.bb)
     have hcl : c2.length = l.length := hc.len
     have hB_c2 : Bd c2 := hc.bd hB_l
     have hlbx : Lb c2 x y := hO.lb (hlb.pm hc hab hb)
     have hOe : Ou a b m y c2 := hO.eq hlbx (by omega) hm1 hm2 hvx hq1 hq2
     refine ⟨⟨(m,y,lm,wb,wp,c2),hc,hOe⟩,by show y - m < y - x;omega,th [] 1,rfl,rfl,rfl,rfl,rfl,rfl,?_,?_⟩
     ·and_intros<;>try first|exact trivial|exact rfl
     ·and_intros<;>try first|exact trivial|exact rfl
    intro _
    refine call_mut [(0,some 0)] (part_ok c5 hB_c5 x y (y - 1 - (p - x)) (by omega) (by omega) (by omega) (by omega)) rfl rfl rfl rfl ?_ ?_ ?_
    ·and_intros<;>try first|exact trivial|exact rfl
    ·and_intros<;>try first|exact trivial|exact rfl
     ·exact hcl
     ·exact eqP
    intro v h' ⟨c2,m,q,⟨hp2,hPt⟩,hv,hd⟩
    subst hv
    refine ⟨_,mut1 hd,rfl,?_⟩
    have hO : Ou a b x y c2 := hO.pm (by omega) hp2
    have hc : Pm a b l c2 := hc.trans (hp2.wide hO.aa hO.bb)
    have hcl : c2.length = l.length := hc.len
    have hB_c2 : Bd c2 := hc.bd hB_l
    have hlbx : Lb c2 x y := hO.lb (hlb.pm hc hab hb)
    have m1 := hPt.am
    have m2 := hPt.mb
    have eL : IntKind.i64.wrap ((m : Int) - (x : Int)) = ((m - x : Nat) : Int) := by rw [wrapS _ ⟨by omega,by omega⟩];omega
    have eR : IntKind.i64.wrap ((y : Int) - (m : Int)) = ((y - m : Nat) : Int) := by rw [wrapS _ ⟨by omega,by omega⟩];omega
    have em1 : IntKind.i64.wrap ((m : Int) + 1) = ((m + 1 : Nat) : Int) := by rw [wrapS _ ⟨by omega,by omega⟩];omega
    have lbL : Lb c2 x m := fun h0 k k1 k2=>hlbx h0 k k1 (by omega)
    have lbR : Lb c2 (m + 1) y := fun h0 k k1 k2=>hPt.right k (by omega) k2
    intro _;refine ⟨by omega,?_⟩
    intro _;refine ⟨fun g=>?_,fun g=>?_⟩
    ·intro _
     refine call_mut [(0,some 0)] (ih (m - x) (by omega) c2 hB_c2 x m (lm) (Nat.le_refl _) (by omega) (by omega) (by omega) lbL) rfl rfl rfl rfl ?_ ?_ ?_
     ·and_intros<;>try first|exact trivial|exact rfl
     ·and_intros<;>try first|exact trivial|exact rfl
      exact hcl
     intro v h' ⟨c3,⟨hp3,hs3⟩,hv,hd⟩
     subst hv
     refine ⟨_,mut1 hd,rfl,?_⟩
     have hPt3 : Pt x y m c3 := hPt.left' (by omega) hp3
     have hO3 : Ou a b x y c3 := hO.pm (by omega) (hp3.wide (Nat.le_refl _) (by omega))
     have hc3 : Pm a b l c3 := hc.trans (hp3.wide hO.aa (by omega))
     refine ⟨⟨(m + 1,y,lm,decide (IntKind.i64.wrap ((m : Int) - (x : Int)) ≥ IntKind.i64.wrap ((IntKind.i64.wrap ((y : Int) - (x : Int))).tdiv 8)),q,c3),hc3,hO3.left hPt3 hs3⟩,by show y - (m + 1) < y - x;omega,th [] 1,rfl,rfl,rfl,rfl,rfl,rfl,?_,?_⟩
     ·and_intros<;>try first|exact trivial|exact rfl
      exact em1.symm
     ·and_intros<;>try first|exact trivial|exact rfl
    intro _
    refine call_mut [(0,some 0)] (ih (y - (m + 1)) (by omega) c2 hB_c2 (m + 1) y (lm) (Nat.le_refl _) (by omega) (by omega) (by omega) lbR) rfl rfl rfl rfl ?_ ?_ ?_
    ·and_intros<;>try first|exact trivial|exact rfl
    ·and_intros<;>try first|exact trivial|exact rfl
     ·exact hcl
     ·exact em1.symm
    intro v h' ⟨c3,⟨hp3,hs3⟩,hv,hd⟩
    subst hv
    refine ⟨_,mut1 hd,rfl,?_⟩
    have hPt3 : Pt x y m c3 := hPt.right' (by omega) hp3
    have hO3 : Ou a b x y c3 := hO.pm (by omega) (hp3.wide (by omega) (Nat.le_refl _))
    have hc3 : Pm a b l c3 := hc.trans (hp3.wide (by omega) hO.bb)
    refine ⟨⟨(x,m,lm,decide (IntKind.i64.wrap ((y : Int) - (m : Int)) ≥ IntKind.i64.wrap ((IntKind.i64.wrap ((y : Int) - (x : Int))).tdiv 8)),q,c3),hc3,hO3.right hPt3 hs3⟩,by show m - x < y - x;omega,th [] 1,rfl,rfl,rfl,rfl,rfl,rfl,?_,?_⟩
    ·and_intros<;>try first|exact trivial|exact rfl
    ·and_intros<;>try first|exact trivial|exact rfl
   intro _;refine ⟨by kernel_rfl,?_⟩
   intro _
   refine call_mut [(0,some 0)] (part_ok c5 hB_c5 x y (y - 1 - (p - x)) (by omega) (by omega) (by omega) (by omega)) rfl rfl rfl rfl ?_ ?_ ?_
   ·and_intros<;>try first|exact trivial|exact rfl
   ·and_intros<;>try first|exact trivial|exact rfl
    ·exact hcl
    ·exact eqP
   intro v h' ⟨c2,m,q,⟨hp2,hPt⟩,hv,hd⟩
   subst hv
   refine ⟨_,mut1 hd,rfl,?_⟩
   have hO : Ou a b x y c2 := hO.pm (by omega) hp2
   have hc : Pm a b l c2 := hc.trans (hp2.wide hO.aa hO.bb)
   have hcl : c2.length = l.length := hc.len
   have hB_c2 : Bd c2 := hc.bd hB_l
   have hlbx : Lb c2 x y := hO.lb (hlb.pm hc hab hb)
   have m1 := hPt.am
   have m2 := hPt.mb
   have eL : IntKind.i64.wrap ((m : Int) - (x : Int)) = ((m - x : Nat) : Int) := by rw [wrapS _ ⟨by omega,by omega⟩];omega
   have eR : IntKind.i64.wrap ((y : Int) - (m : Int)) = ((y - m : Nat) : Int) := by rw [wrapS _ ⟨by omega,by omega⟩];omega
   have em1 : IntKind.i64.wrap ((m : Int) + 1) = ((m + 1 : Nat) : Int) := by rw [wrapS _ ⟨by omega,by omega⟩];omega
   have lbL : Lb c2 x m := fun h0 k k1 k2=>hlbx h0 k k1 (by omega)
   have lbR : Lb c2 (m + 1) y := fun h0 k k1 k2=>hPt.right k (by omega) k2
   intro _;refine ⟨by omega,?_⟩
   intro _;refine ⟨fun g=>?_,fun g=>?_⟩
   ·intro _
    refine call_mut [(0,some 0)] (ih (m - x) (by omega) c2 hB_c2 x m (lm) (Nat.le_refl _) (by omega) (by omega) (by omega) lbL) rfl rfl rfl rfl ?_ ?_ ?_
    ·and_intros<;>try first|exact trivial|exact rfl
    ·and_intros<;>try first|exact trivial|exact rfl
     exact hcl
    intro v h' ⟨c3,⟨hp3,hs3⟩,hv,hd⟩
    subst hv
    refine ⟨_,mut1 hd,rfl,?_⟩
    have hPt3 : Pt x y m c3 := hPt.left' (by omega) hp3
    have hO3 : Ou a b x y c3 := hO.pm (by omega) (hp3.wide (Nat.le_refl _) (by omega))
    have hc3 : Pm a b l c3 := hc.trans (hp3.wide hO.aa (by omega))
    refine ⟨⟨(m + 1,y,lm,decide (IntKind.i64.wrap ((m : Int) - (x : Int)) ≥ IntKind.i64.wrap ((IntKind.i64.wrap ((y : Int) - (x : Int))).tdiv 8)),q,c3),hc3,hO3.left hPt3 hs3⟩,by show y - (m + 1) < y - x;omega,th [] 1,rfl,rfl,rfl,rfl,rfl,rfl,?_,?_⟩
    ·and_intros<;>try first|exact trivial|exact rfl
     exact em1.symm
    ·and_intros<;>try first|exact trivial|exact rfl
   intro _
   refine call_mut [(0,some 0)] (ih (y - (m + 1)) (by omega) c2 hB_c2 (m + 1) y (lm) (Nat.le_refl _) (by omega) (by omega) (by omega) lbR) rfl rfl rfl rfl ?_ ?_ ?_
   ·and_intros<;>try first|exact trivial|exact rfl
   ·and_intros<;>try first|exact trivial|exact rfl
    ·exact hcl
    ·exact em1.symm
   intro v h' ⟨c3,⟨hp3,hs3⟩,hv,hd⟩
   subst hv
   refine ⟨_,mut1 hd,rfl,?_⟩
   have hPt3 : Pt x y m c3 := hPt.right' (by omega) hp3
   have hO3 : Ou a b x y c3 := hO.pm (by omega) (hp3.wide (by omega) (Nat.le_refl _))
   have hc3 : Pm a b l c3 := hc.trans (hp3.wide (by omega) hO.bb)
   refine ⟨⟨(x,m,lm,decide (IntKind.i64.wrap ((y : Int) - (m : Int)) ≥ IntKind.i64.wrap ((IntKind.i64.wrap ((y : Int) - (x : Int))).tdiv 8)),q,c3),hc3,hO3.right hPt3 hs3⟩,by show m - x < y - x;omega,th [] 1,rfl,rfl,rfl,rfl,rfl,rfl,?_,?_⟩
   ·and_intros<;>try first|exact trivial|exact rfl
   ·and_intros<;>try first|exact trivial|exact rfl
  exact absurd (show wb = false from g) (by rw [hwb];decide)
 intro _;refine ⟨fun g=>?_,fun g=>?_⟩
 ·intro _;refine ⟨fun g=>?_,fun g=>?_⟩
  ·intro _;refine ⟨fun g=>?_,fun g=>?_⟩
   ·intro _
    refine call_mut [(0,some 0)] (pins_ok c hB_c x y (by omega) (by omega) (by omega) hlbx) rfl rfl rfl rfl ?_ ?_ ?_
    ·and_intros<;>try first|exact trivial|exact rfl
    ·and_intros<;>try first|exact trivial|exact rfl
     exact hcl
    intro v h' ⟨c4,q4,⟨hp4,hs4⟩,hv,hd⟩
    subst hv
    refine ⟨_,mut1 hd,rfl,?_⟩
    have hO : Ou a b x y c4 := hO.pm (by omega) hp4
    have hc : Pm a b l c4 := hc.trans (hp4.wide hO.aa hO.bb)
    have hcl : c4.length = l.length := hc.len
    have hB_c4 : Bd c4 := hc.bd hB_l
    have hlbx : Lb c4 x y := hO.lb (hlb.pm hc hab hb)
    cases q4 with
    | true =>
     intro _
     exact ⟨c4,⟨hc,hO.fin (hs4 rfl)⟩,rfl,rfl⟩
    | false =>
     intro _;refine ⟨fun g=>?_,fun g=>?_⟩
     ·have g0 := of_decide_eq_true (show decide ((x : Int) > 0) = true from g)
      have ex : IntKind.i64.wrap ((x : Int) - 1) = (x : Int) - 1 := wrapS _ ⟨by omega,by omega⟩
      have n1 : (IntKind.i64.wrap ((x : Int) - 1)).toNat = x - 1 := by rw [ex];omega
      have eP : (p : Int) = ((p : Nat) : Int) := rfl
      have nP : ((p : Int)).toNat = p := by rw [eP];rfl
      intro _;refine ⟨show 0≤IntKind.i64.wrap ((x : Int) - 1)∧IntKind.i64.wrap ((x : Int) - 1) < (l.length : Int) by rw [ex];omega,?_⟩
      intro _;refine ⟨show (IntKind.i64.wrap ((x : Int) - 1)).toNat < c4.length by rw [n1];omega,?_⟩
      intro _;refine ⟨show 0≤(p : Int)∧(p : Int) < (l.length : Int) by rw [eP];omega,?_⟩
      intro _;refine ⟨show ((p : Int)).toNat < c4.length by rw [nP];omega,?_⟩
      intro _
      refine Or.inl ?_
      intro _
      refine call_pure [] (less_ok (raw c4 (x - 1)) (raw c4 (p)) (hB_c4.at _) (hB_c4.at _)) rfl rfl rfl ?_ ?_ ?_
      ·and_intros<;>try first|exact trivial|exact rfl
      ·and_intros<;>try first|exact trivial|exact rfl
       show raw c4 (x - 1) = c4.getD (IntKind.i64.wrap ((x : Int) - 1)).toNat 0
       rw [n1];rfl
      intro v hv _
      subst hv
      intro _;refine ⟨by kernel_rfl,?_⟩
      intro _;refine ⟨fun g=>?_,fun g=>?_⟩
      ·have g2 : (!decide (nr (raw c4 (x - 1)) (raw c4 (p)) < 0)) = true := g
       rw [Bool.not_eq_true'] at g2
       have g2 : ¬ at' c4 (x - 1) < at' c4 (p) := fun q=>absurd (nr_lt.2 q) (of_decide_eq_false g2)
       intro _
       refine call_mut [(0,some 0)] (parteq_ok c4 hB_c4 x y (p) (by omega) (by omega) (by omega) (by omega)) rfl rfl rfl rfl ?_ ?_ ?_
       ·and_intros<;>try first|exact trivial|exact rfl
       ·and_intros<;>try first|exact trivial|exact rfl
        exact hcl
       intro v h' ⟨c2,m,⟨hp2,hm1,hm2,hq1,hq2⟩,hv,hd⟩
       subst hv
       refine ⟨_,mut1 hd,rfl,?_⟩
       have hvx : at' c4 (p)≤at' c2 (x - 1) := by rw [hp2.out (x - 1) (.inl (by omega))];omega
       have hO : Ou a b x y c2 := hO.pm (by omega) hp2
       have hc : Pm a b l c2 := hc.trans (hp2.wide hO.aa hO.bb)
       have hcl : c2.length = l.length := hc.len
       have hB_c2 : Bd c2 := hc.bd hB_l
       have hlbx : Lb c2 x y := hO.lb (hlb.pm hc hab hb)
       have hOe : Ou a b m y c2 := hO.eq hlbx (by omega) hm1 hm2 hvx hq1 hq2
       refine ⟨⟨(m,y,lm,wb,wp,c2),hc,hOe⟩,by show y - m < y - x;omega,th [] 1,rfl,rfl,rfl,rfl,rfl,rfl,?_,?_⟩
       ·and_intros<;>try first|exact trivial|exact rfl
       ·and_intros<;>try first|exact trivial|exact rfl
      intro _
      refine call_mut [(0,some 0)] (part_ok c4 hB_c4 x y (p) (by omega) (by omega) (by omega) (by omega)) rfl rfl rfl rfl ?_ ?_ ?_
      ·and_intros<;>try first|exact trivial|exact rfl
      ·and_intros<;>try first|exact trivial|exact rfl
       exact hcl
      intro v h' ⟨c2,m,q,⟨hp2,hPt⟩,hv,hd⟩
      subst hv
      refine ⟨_,mut1 hd,rfl,?_⟩
      have hO : Ou a b x y c2 := hO.pm (by omega) hp2
      have hc : Pm a b l c2 := hc.trans (hp2.wide hO.aa hO.bb)
      have hcl : c2.length = l.length := hc.len
      have hB_c2 : Bd c2 := hc.bd hB_l
      have hlbx : Lb c2 x y := hO.lb (hlb.pm hc hab hb)
      have m1 := hPt.am
      have m2 := hPt.mb
      have eL : IntKind.i64.wrap ((m : Int) - (x : Int)) = ((m - x : Nat) : Int) := by rw [wrapS _ ⟨by omega,by omega⟩];omega
      have eR : IntKind.i64.wrap ((y : Int) - (m : Int)) = ((y - m : Nat) : Int) := by rw [wrapS _ ⟨by omega,by omega⟩];omega
      have em1 : IntKind.i64.wrap ((m : Int) + 1) = ((m + 1 : Nat) : Int) := by rw [wrapS _ ⟨by omega,by omega⟩];omega
      have lbL : Lb c2 x m := fun h0 k k1 k2=>hlbx h0 k k1 (by omega)
      have lbR : Lb c2 (m + 1) y := fun h0 k k1 k2=>hPt.right k (by omega) k2
      intro _;refine ⟨by omega,?_⟩
      intro _;refine ⟨fun g=>?_,fun g=>?_⟩
      ·intro _
       refine call_mut [(0,some 0)] (ih (m - x) (by omega) c2 hB_c2 x m (lm) (Nat.le_refl _) (by omega) (by omega) (by omega) lbL) rfl rfl rfl rfl ?_ ?_ ?_
       ·and_intros<;>try first|exact trivial|exact rfl
       ·and_intros<;>try first|exact trivial|exact rfl
        exact hcl
       intro v h' ⟨c3,⟨hp3,hs3⟩,hv,hd⟩
       subst hv
       refine ⟨_,mut1 hd,rfl,?_⟩
       have hPt3 : Pt x y m c3 := hPt.left' (by omega) hp3
       have hO3 : Ou a b x y c3 := hO.pm (by omega) (hp3.wide (Nat.le_refl _) (by omega))
       have hc3 : Pm a b l c3 := hc.trans (hp3.wide hO.aa (by omega))
       refine ⟨⟨(m + 1,y,lm,decide (IntKind.i64.wrap ((m : Int) - (x : Int)) ≥ IntKind.i64.wrap ((IntKind.i64.wrap ((y : Int) - (x : Int))).tdiv 8)),q,c3),hc3,hO3.left hPt3 hs3⟩,by show y - (m + 1) < y - x;omega,th [] 1,rfl,rfl,rfl,rfl,rfl,rfl,?_,?_⟩
       ·and_intros<;>try first|exact trivial|exact rfl
        exact em1.symm
       ·and_intros<;>try first|exact trivial|exact rfl
      intro _
      refine call_mut [(0,some 0)] (ih (y - (m + 1)) (by omega) c2 hB_c2 (m + 1) y (lm) (Nat.le_refl _) (by omega) (by omega) (by omega) lbR) rfl rfl rfl rfl ?_ ?_ ?_
      ·and_intros<;>try first|exact trivial|exact rfl
      ·and_intros<;>try first|exact trivial|exact rfl
       ·exact hcl
       ·exact em1.symm
      intro v h' ⟨c3,⟨hp3,hs3⟩,hv,hd⟩
      subst hv
      refine ⟨_,mut1 hd,rfl,?_⟩
      have hPt3 : Pt x y m c3 := hPt.right' (by omega) hp3
      have hO3 : Ou a b x y c3 := hO.pm (by omega) (hp3.wide (by omega) (Nat.le_refl _))
      have hc3 : Pm a b l c3 := hc.trans (hp3.wide (by omega) hO.bb)
      refine ⟨⟨(x,m,lm,decide (IntKind.i64.wrap ((y : Int) - (m : Int)) ≥ IntKind.i64.wrap ((IntKind.i64.wrap ((y : Int) - (x : Int))).tdiv 8)),q,c3),hc3,hO3.right hPt3 hs3⟩,by show m - x < y - x;omega,th [] 1,rfl,rfl,rfl,rfl,rfl,rfl,?_,?_⟩
      ·and_intros<;>try first|exact trivial|exact rfl
      ·and_intros<;>try first|exact trivial|exact rfl
     intro _;refine ⟨by kernel_rfl,?_⟩
     intro _
     refine call_mut [(0,some 0)] (part_ok c4 hB_c4 x y (p) (by omega) (by omega) (by omega) (by omega)) rfl rfl rfl rfl ?_ ?_ ?_
     ·and_intros<;>try first|exact trivial|exact rfl
     ·and_intros<;>try first|exact trivial|exact rfl
      exact hcl
     intro v h' ⟨c2,m,q,⟨hp2,hPt⟩,hv,hd⟩
     subst hv
     refine ⟨_,mut1 hd,rfl,?_⟩
     have hO : Ou a b x y c2 := hO.pm (by omega) hp2
     have hc : Pm a b l c2 := hc.trans (hp2.wide hO.aa hO.bb)
     have hcl : c2.length = l.length := hc.len
     have hB_c2 : Bd c2 := hc.bd hB_l
     have hlbx : Lb c2 x y := hO.lb (hlb.pm hc hab hb)
     have m1 := hPt.am
     have m2 := hPt.mb
     have eL : IntKind.i64.wrap ((m : Int) - (x : Int)) = ((m - x : Nat) : Int) := by rw [wrapS _ ⟨by omega,by omega⟩];omega
     have eR : IntKind.i64.wrap ((y : Int) - (m : Int)) = ((y - m : Nat) : Int) := by rw [wrapS _ ⟨by omega,by omega⟩];omega
     have em1 : IntKind.i64.wrap ((m : Int) + 1) = ((m + 1 : Nat) : Int) := by rw [wrapS _ ⟨by omega,by omega⟩];omega
     have lbL : Lb c2 x m := fun h0 k k1 k2=>hlbx h0 k k1 (by omega)
     have lbR : Lb c2 (m + 1) y := fun h0 k k1 k2=>hPt.right k (by omega) k2
     intro _;refine ⟨by omega,?_⟩
     intro _;refine ⟨fun g=>?_,fun g=>?_⟩
     ·intro _
      refine call_mut [(0,some 0)] (ih (m - x) (by omega) c2 hB_c2 x m (lm) (Nat.le_refl _) (by omega) (by omega) (by omega) lbL) rfl rfl rfl rfl ?_ ?_ ?_
      ·and_intros<;>try first|exact trivial|exact rfl
      ·and_intros<;>try first|exact trivial|exact rfl
       exact hcl
      intro v h' ⟨c3,⟨hp3,hs3⟩,hv,hd⟩
      subst hv
      refine ⟨_,mut1 hd,rfl,?_⟩
      have hPt3 : Pt x y m c3 := hPt.left' (by omega) hp3
      have hO3 : Ou a b x y c3 := hO.pm (by omega) (hp3.wide (Nat.le_refl _) (by omega))
      have hc3 : Pm a b l c3 := hc.trans (hp3.wide hO.aa (by omega))
      refine ⟨⟨(m + 1,y,lm,decide (IntKind.i64.wrap ((m : Int) - (x : Int)) ≥ IntKind.i64.wrap ((IntKind.i64.wrap ((y : Int) - (x : Int))).tdiv 8)),q,c3),hc3,hO3.left hPt3 hs3⟩,by show y - (m + 1) < y - x;omega,th [] 1,rfl,rfl,rfl,rfl,rfl,rfl,?_,?_⟩
      ·and_intros<;>try first|exact trivial|exact rfl
       exact em1.symm
      ·and_intros<;>try first|exact trivial|exact rfl
     intro _
     refine call_mut [(0,some 0)] (ih (y - (m + 1)) (by omega) c2 hB_c2 (m + 1) y (lm) (Nat.le_refl _) (by omega) (by omega) (by omega) lbR) rfl rfl rfl rfl ?_ ?_ ?_
     ·and_intros<;>try first|exact trivial|exact rfl
     ·and_intros<;>try first|exact trivial|exact rfl
      ·exact hcl
      ·exact em1.symm
     intro v h' ⟨c3,⟨hp3,hs3⟩,hv,hd⟩
     subst hv
     refine ⟨_,mut1 hd,rfl,?_⟩
     have hPt3 : Pt x y m c3 := hPt.right' (by omega) hp3
     have hO3 : Ou a b x y c3 := hO.pm (by omega) (hp3.wide (by omega) (Nat.le_refl _))
     have hc3 : Pm a b l c3 := hc.trans (hp3.wide (by omega) hO.bb)
     refine ⟨⟨(x,m,lm,decide (IntKind.i64.wrap ((y : Int) - (m : Int)) ≥ IntKind.i64.wrap ((IntKind.i64.wrap ((y : Int) - (x : Int))).tdiv 8)),q,c3),hc3,hO3.right hPt3 hs3⟩,by show m - x < y - x;omega,th [] 1,rfl,rfl,rfl,rfl,rfl,rfl,?_,?_⟩
     ·and_intros<;>try first|exact trivial|exact rfl
     ·and_intros<;>try first|exact trivial|exact rfl
   intro _;refine ⟨fun g=>?_,fun g=>?_⟩
   ·have g0 := of_decide_eq_true (show decide ((x : Int) > 0) = true from g)
    have ex : IntKind.i64.wrap ((x : Int) - 1) = (x : Int) - 1 := wrapS _ ⟨by omega,by omega⟩
    have n1 : (IntKind.i64.wrap ((x : Int) - 1)).toNat = x - 1 := by rw [ex];omega
    have eP : (p : Int) = ((p : Nat) : Int) := rfl
    have nP : ((p : Int)).toNat = p := by rw [eP];rfl
    intro _;refine ⟨show 0≤IntKind.i64.wrap ((x : Int) - 1)∧IntKind.i64.wrap ((x : Int) - 1) < (l.length : Int) by rw [ex];omega,?_⟩
    intro _;refine ⟨show (IntKind.i64.wrap ((x : Int) - 1)).toNat < c.length by rw [n1];omega,?_⟩
    intro _;refine ⟨show 0≤(p : Int)∧(p : Int) < (l.length : Int) by rw [eP];omega,?_⟩
    intro _;refine ⟨show ((p : Int)).toNat < c.length by rw [nP];omega,?_⟩
    intro _
    refine Or.inl ?_
    intro _
    refine call_pure [] (less_ok (raw c (x - 1)) (raw c (p)) (hB_c.at _) (hB_c.at _)) rfl rfl rfl ?_ ?_ ?_
    ·and_intros<;>try first|exact trivial|exact rfl
    ·and_intros<;>try first|exact trivial|exact rfl
     show raw c (x - 1) = c.getD (IntKind.i64.wrap ((x : Int) - 1)).toNat 0
     rw [n1];rfl
    intro v hv _
    subst hv
    intro _;refine ⟨by kernel_rfl,?_⟩
    intro _;refine ⟨fun g=>?_,fun g=>?_⟩
    ·have g2 : (!decide (nr (raw c (x - 1)) (raw c (p)) < 0)) = true := g
     rw [Bool.not_eq_true'] at g2
     have g2 : ¬ at' c (x - 1) < at' c (p) := fun q=>absurd (nr_lt.2 q) (of_decide_eq_false g2)
     intro _
     refine call_mut [(0,some 0)] (parteq_ok c hB_c x y (p) (by omega) (by omega) (by omega) (by omega)) rfl rfl rfl rfl ?_ ?_ ?_
     ·and_intros<;>try first|exact trivial|exact rfl
     ·and_intros<;>try first|exact trivial|exact rfl
      exact hcl
     intro v h' ⟨c2,m,⟨hp2,hm1,hm2,hq1,hq2⟩,hv,hd⟩
     subst hv
     refine ⟨_,mut1 hd,rfl,?_⟩
     have hvx : at' c (p)≤at' c2 (x - 1) := by rw [hp2.out (x - 1) (.inl (by omega))];omega
     have hO : Ou a b x y c2 := hO.pm (by omega) hp2
     have hc : Pm a b l c2 := hc.trans (hp2.wide hO.aa hO.bb)
     have hcl : c2.length = l.length := hc.len
     have hB_c2 : Bd c2 := hc.bd hB_l
     have hlbx : Lb c2 x y := hO.lb (hlb.pm hc hab hb)
     have hOe : Ou a b m y c2 := hO.eq hlbx (by omega) hm1 hm2 hvx hq1 hq2
     refine ⟨⟨(m,y,lm,wb,wp,c2),hc,hOe⟩,by show y - m < y - x;omega,th [] 1,rfl,rfl,rfl,rfl,rfl,rfl,?_,?_⟩
     ·and_intros<;>try first|exact trivial|exact rfl
     ·and_intros<;>try first|exact trivial|exact rfl
    intro _
    refine call_mut [(0,some 0)] (part_ok c hB_c x y (p) (by omega) (by omega) (by omega) (by omega)) rfl rfl rfl rfl ?_ ?_ ?_
    ·and_intros<;>try first|exact trivial|exact rfl
    ·and_intros<;>try first|exact trivial|exact rfl
     exact hcl
    intro v h' ⟨c2,m,q,⟨hp2,hPt⟩,hv,hd⟩
    subst hv
    refine ⟨_,mut1 hd,rfl,?_⟩
    have hO : Ou a b x y c2 := hO.pm (by omega) hp2
    have hc : Pm a b l c2 := hc.trans (hp2.wide hO.aa hO.bb)
    have hcl : c2.length = l.length := hc.len
    have hB_c2 : Bd c2 := hc.bd hB_l
    have hlbx : Lb c2 x y := hO.lb (hlb.pm hc hab hb)
    have m1 := hPt.am
    have m2 := hPt.mb
    have eL : IntKind.i64.wrap ((m : Int) - (x : Int)) = ((m - x : Nat) : Int) := by rw [wrapS _ ⟨by omega,by omega⟩];omega
    have eR : IntKind.i64.wrap ((y : Int) - (m : Int)) = ((y - m : Nat) : Int) := by rw [wrapS _ ⟨by omega,by omega⟩];omega
    have em1 : IntKind.i64.wrap ((m : Int) + 1) = ((m + 1 : Nat) : Int) := by rw [wrapS _ ⟨by omega,by omega⟩];omega
    have lbL : Lb c2 x m := fun h0 k k1 k2=>hlbx h0 k k1 (by omega)
    have lbR : Lb c2 (m + 1) y := fun h0 k k1 k2=>hPt.right k (by omega) k2
    intro _;refine ⟨by omega,?_⟩
    intro _;refine ⟨fun g=>?_,fun g=>?_⟩
    ·intro _
     refine call_mut [(0,some 0)] (ih (m - x) (by omega) c2 hB_c2 x m (lm) (Nat.le_refl _) (by omega) (by omega) (by omega) lbL) rfl rfl rfl rfl ?_ ?_ ?_
     ·and_intros<;>try first|exact trivial|exact rfl
     ·and_intros<;>try first|exact trivial|exact rfl
      exact hcl
     intro v h' ⟨c3,⟨hp3,hs3⟩,hv,hd⟩
     subst hv
     refine ⟨_,mut1 hd,rfl,?_⟩
     have hPt3 : Pt x y m c3 := hPt.left' (by omega) hp3
     have hO3 : Ou a b x y c3 := hO.pm (by omega) (hp3.wide (Nat.le_refl _) (by omega))
     have hc3 : Pm a b l c3 := hc.trans (hp3.wide hO.aa (by omega))
     refine ⟨⟨(m + 1,y,lm,decide (IntKind.i64.wrap ((m : Int) - (x : Int)) ≥ IntKind.i64.wrap ((IntKind.i64.wrap ((y : Int) - (x : Int))).tdiv 8)),q,c3),hc3,hO3.left hPt3 hs3⟩,by show y - (m + 1) < y - x;omega,th [] 1,rfl,rfl,rfl,rfl,rfl,rfl,?_,?_⟩
     ·and_intros<;>try first|exact trivial|exact rfl
      exact em1.symm
     ·and_intros<;>try first|exact trivial|exact rfl
    intro _
    refine call_mut [(0,some 0)] (ih (y - (m + 1)) (by omega) c2 hB_c2 (m + 1) y (lm) (Nat.le_refl _) (by omega) (by omega) (by omega) lbR) rfl rfl rfl rfl ?_ ?_ ?_
    ·and_intros<;>try first|exact trivial|exact rfl
    ·and_intros<;>try first|exact trivial|exact rfl
     ·exact hcl
     ·exact em1.symm
    intro v h' ⟨c3,⟨hp3,hs3⟩,hv,hd⟩
    subst hv
    refine ⟨_,mut1 hd,rfl,?_⟩
    have hPt3 : Pt x y m c3 := hPt.right' (by omega) hp3
    have hO3 : Ou a b x y c3 := hO.pm (by omega) (hp3.wide (by omega) (Nat.le_refl _))
    have hc3 : Pm a b l c3 := hc.trans (hp3.wide (by omega) hO.bb)
    refine ⟨⟨(x,m,lm,decide (IntKind.i64.wrap ((y : Int) - (m : Int)) ≥ IntKind.i64.wrap ((IntKind.i64.wrap ((y : Int) - (x : Int))).tdiv 8)),q,c3),hc3,hO3.right hPt3 hs3⟩,by show m - x < y - x;omega,th [] 1,rfl,rfl,rfl,rfl,rfl,rfl,?_,?_⟩
    ·and_intros<;>try first|exact trivial|exact rfl
    ·and_intros<;>try first|exact trivial|exact rfl
   intro _;refine ⟨by kernel_rfl,?_⟩
   intro _
   refine call_mut [(0,some 0)] (part_ok c hB_c x y (p) (by omega) (by omega) (by omega) (by omega)) rfl rfl rfl rfl ?_ ?_ ?_
   ·and_intros<;>try first|exact trivial|exact rfl
   ·and_intros<;>try first|exact trivial|exact rfl
    exact hcl
   intro v h' ⟨c2,m,q,⟨hp2,hPt⟩,hv,hd⟩
   subst hv
   refine ⟨_,mut1 hd,rfl,?_⟩
   have hO : Ou a b x y c2 := hO.pm (by omega) hp2
   have hc : Pm a b l c2 := hc.trans (hp2.wide hO.aa hO.bb)
   have hcl : c2.length = l.length := hc.len
   have hB_c2 : Bd c2 := hc.bd hB_l
   have hlbx : Lb c2 x y := hO.lb (hlb.pm hc hab hb)
   have m1 := hPt.am
   have m2 := hPt.mb
   have eL : IntKind.i64.wrap ((m : Int) - (x : Int)) = ((m - x : Nat) : Int) := by rw [wrapS _ ⟨by omega,by omega⟩];omega
   have eR : IntKind.i64.wrap ((y : Int) - (m : Int)) = ((y - m : Nat) : Int) := by rw [wrapS _ ⟨by omega,by omega⟩];omega
   have em1 : IntKind.i64.wrap ((m : Int) + 1) = ((m + 1 : Nat) : Int) := by rw [wrapS _ ⟨by omega,by omega⟩];omega
   have lbL : Lb c2 x m := fun h0 k k1 k2=>hlbx h0 k k1 (by omega)
   have lbR : Lb c2 (m + 1) y := fun h0 k k1 k2=>hPt.right k (by omega) k2
   intro _;refine ⟨by omega,?_⟩
   intro _;refine ⟨fun g=>?_,fun g=>?_⟩
   ·intro _
    refine call_mut [(0,some 0)] (ih (m - x) (by omega) c2 hB_c2 x m (lm) (Nat.le_refl _) (by omega) (by omega) (by omega) lbL) rfl rfl rfl rfl ?_ ?_ ?_
    ·and_intros<;>try first|exact trivial|exact rfl
    ·and_intros<;>try first|exact trivial|exact rfl
     exact hcl
    intro v h' ⟨c3,⟨hp3,hs3⟩,hv,hd⟩
    subst hv
    refine ⟨_,mut1 hd,rfl,?_⟩
    have hPt3 : Pt x y m c3 := hPt.left' (by omega) hp3
    have hO3 : Ou a b x y c3 := hO.pm (by omega) (hp3.wide (Nat.le_refl _) (by omega))
    have hc3 : Pm a b l c3 := hc.trans (hp3.wide hO.aa (by omega))
    refine ⟨⟨(m + 1,y,lm,decide (IntKind.i64.wrap ((m : Int) - (x : Int)) ≥ IntKind.i64.wrap ((IntKind.i64.wrap ((y : Int) - (x : Int))).tdiv 8)),q,c3),hc3,hO3.left hPt3 hs3⟩,by show y - (m + 1) < y - x;omega,th [] 1,rfl,rfl,rfl,rfl,rfl,rfl,?_,?_⟩
    ·and_intros<;>try first|exact trivial|exact rfl
     exact em1.symm
    ·and_intros<;>try first|exact trivial|exact rfl
   intro _
   refine call_mut [(0,some 0)] (ih (y - (m + 1)) (by omega) c2 hB_c2 (m + 1) y (lm) (Nat.le_refl _) (by omega) (by omega) (by omega) lbR) rfl rfl rfl rfl ?_ ?_ ?_
   ·and_intros<;>try first|exact trivial|exact rfl
   ·and_intros<;>try first|exact trivial|exact rfl
    ·exact hcl
    ·exact em1.symm
   intro v h' ⟨c3,⟨hp3,hs3⟩,hv,hd⟩
   subst hv
   refine ⟨_,mut1 hd,rfl,?_⟩
   have hPt3 : Pt x y m c3 := hPt.right' (by omega) hp3
   have hO3 : Ou a b x y c3 := hO.pm (by omega) (hp3.wide (by omega) (Nat.le_refl _))
   have hc3 : Pm a b l c3 := hc.trans (hp3.wide (by omega) hO.bb)
   refine ⟨⟨(x,m,lm,decide (IntKind.i64.wrap ((y : Int) - (m : Int)) ≥ IntKind.i64.wrap ((IntKind.i64.wrap ((y : Int) - (x : Int))).tdiv 8)),q,c3),hc3,hO3.right hPt3 hs3⟩,by show m - x < y - x;omega,th [] 1,rfl,rfl,rfl,rfl,rfl,rfl,?_,?_⟩
   ·and_intros<;>try first|exact trivial|exact rfl
   ·and_intros<;>try first|exact trivial|exact rfl
  intro _;refine ⟨fun g=>?_,fun g=>?_⟩
  ·have g0 := of_decide_eq_true (show decide ((x : Int) > 0) = true from g)
   have ex : IntKind.i64.wrap ((x : Int) - 1) = (x : Int) - 1 := wrapS _ ⟨by omega,by omega⟩
   have n1 : (IntKind.i64.wrap ((x : Int) - 1)).toNat = x - 1 := by rw [ex];omega
   have eP : (p : Int) = ((p : Nat) : Int) := rfl
   have nP : ((p : Int)).toNat = p := by rw [eP];rfl
   intro _;refine ⟨show 0≤IntKind.i64.wrap ((x : Int) - 1)∧IntKind.i64.wrap ((x : Int) - 1) < (l.length : Int) by rw [ex];omega,?_⟩
   intro _;refine ⟨show (IntKind.i64.wrap ((x : Int) - 1)).toNat < c.length by rw [n1];omega,?_⟩
   intro _;refine ⟨show 0≤(p : Int)∧(p : Int) < (l.length : Int) by rw [eP];omega,?_⟩
   intro _;refine ⟨show ((p : Int)).toNat < c.length by rw [nP];omega,?_⟩
   intro _
   refine Or.inl ?_
   intro _
   refine call_pure [] (less_ok (raw c (x - 1)) (raw c (p)) (hB_c.at _) (hB_c.at _)) rfl rfl rfl ?_ ?_ ?_
   ·and_intros<;>try first|exact trivial|exact rfl
   ·and_intros<;>try first|exact trivial|exact rfl
    show raw c (x - 1) = c.getD (IntKind.i64.wrap ((x : Int) - 1)).toNat 0
    rw [n1];rfl
   intro v hv _
   subst hv
   intro _;refine ⟨by kernel_rfl,?_⟩
   intro _;refine ⟨fun g=>?_,fun g=>?_⟩
   ·have g2 : (!decide (nr (raw c (x - 1)) (raw c (p)) < 0)) = true := g
    rw [Bool.not_eq_true'] at g2
    have g2 : ¬ at' c (x - 1) < at' c (p) := fun q=>absurd (nr_lt.2 q) (of_decide_eq_false g2)
    intro _
    refine call_mut [(0,some 0)] (parteq_ok c hB_c x y (p) (by omega) (by omega) (by omega) (by omega)) rfl rfl rfl rfl ?_ ?_ ?_
    ·and_intros<;>try first|exact trivial|exact rfl
    ·and_intros<;>try first|exact trivial|exact rfl
     exact hcl
    intro v h' ⟨c2,m,⟨hp2,hm1,hm2,hq1,hq2⟩,hv,hd⟩
    subst hv
    refine ⟨_,mut1 hd,rfl,?_⟩
    have hvx : at' c (p)≤at' c2 (x - 1) := by rw [hp2.out (x - 1) (.inl (by omega))];omega
    have hO : Ou a b x y c2 := hO.pm (by omega) hp2
    have hc : Pm a b l c2 := hc.trans (hp2.wide hO.aa hO.bb)
    have hcl : c2.length = l.length := hc.len
    have hB_c2 : Bd c2 := hc.bd hB_l
    have hlbx : Lb c2 x y := hO.lb (hlb.pm hc hab hb)
    have hOe : Ou a b m y c2 := hO.eq hlbx (by omega) hm1 hm2 hvx hq1 hq2
    refine ⟨⟨(m,y,lm,wb,wp,c2),hc,hOe⟩,by show y - m < y - x;omega,th [] 1,rfl,rfl,rfl,rfl,rfl,rfl,?_,?_⟩
    ·and_intros<;>try first|exact trivial|exact rfl
    ·and_intros<;>try first|exact trivial|exact rfl
   intro _
   refine call_mut [(0,some 0)] (part_ok c hB_c x y (p) (by omega) (by omega) (by omega) (by omega)) rfl rfl rfl rfl ?_ ?_ ?_
   ·and_intros<;>try first|exact trivial|exact rfl
   ·and_intros<;>try first|exact trivial|exact rfl
    exact hcl
   intro v h' ⟨c2,m,q,⟨hp2,hPt⟩,hv,hd⟩
   subst hv
   refine ⟨_,mut1 hd,rfl,?_⟩
   have hO : Ou a b x y c2 := hO.pm (by omega) hp2
   have hc : Pm a b l c2 := hc.trans (hp2.wide hO.aa hO.bb)
   have hcl : c2.length = l.length := hc.len
   have hB_c2 : Bd c2 := hc.bd hB_l
   have hlbx : Lb c2 x y := hO.lb (hlb.pm hc hab hb)
   have m1 := hPt.am
   have m2 := hPt.mb
   have eL : IntKind.i64.wrap ((m : Int) - (x : Int)) = ((m - x : Nat) : Int) := by rw [wrapS _ ⟨by omega,by omega⟩];omega
   have eR : IntKind.i64.wrap ((y : Int) - (m : Int)) = ((y - m : Nat) : Int) := by rw [wrapS _ ⟨by omega,by omega⟩];omega
   have em1 : IntKind.i64.wrap ((m : Int) + 1) = ((m + 1 : Nat) : Int) := by rw [wrapS _ ⟨by omega,by omega⟩];omega
   have lbL : Lb c2 x m := fun h0 k k1 k2=>hlbx h0 k k1 (by omega)
   have lbR : Lb c2 (m + 1) y := fun h0 k k1 k2=>hPt.right k (by omega) k2
   intro _;refine ⟨by omega,?_⟩
   intro _;refine ⟨fun g=>?_,fun g=>?_⟩
   ·intro _
    refine call_mut [(0,some 0)] (ih (m - x) (by omega) c2 hB_c2 x m (lm) (Nat.le_refl _) (by omega) (by omega) (by omega) lbL) rfl rfl rfl rfl ?_ ?_ ?_
    ·and_intros<;>try first|exact trivial|exact rfl
    ·and_intros<;>try first|exact trivial|exact rfl
     exact hcl
    intro v h' ⟨c3,⟨hp3,hs3⟩,hv,hd⟩
    subst hv
    refine ⟨_,mut1 hd,rfl,?_⟩
    have hPt3 : Pt x y m c3 := hPt.left' (by omega) hp3
    have hO3 : Ou a b x y c3 := hO.pm (by omega) (hp3.wide (Nat.le_refl _) (by omega))
    have hc3 : Pm a b l c3 := hc.trans (hp3.wide hO.aa (by omega))
    refine ⟨⟨(m + 1,y,lm,decide (IntKind.i64.wrap ((m : Int) - (x : Int)) ≥ IntKind.i64.wrap ((IntKind.i64.wrap ((y : Int) - (x : Int))).tdiv 8)),q,c3),hc3,hO3.left hPt3 hs3⟩,by show y - (m + 1) < y - x;omega,th [] 1,rfl,rfl,rfl,rfl,rfl,rfl,?_,?_⟩
    ·and_intros<;>try first|exact trivial|exact rfl
     exact em1.symm
    ·and_intros<;>try first|exact trivial|exact rfl
   intro _
   refine call_mut [(0,some 0)] (ih (y - (m + 1)) (by omega) c2 hB_c2 (m + 1) y (lm) (Nat.le_refl _) (by omega) (by omega) (by omega) lbR) rfl rfl rfl rfl ?_ ?_ ?_
   ·and_intros<;>try first|exact trivial|exact rfl
   ·and_intros<;>try first|exact trivial|exact rfl
    ·exact hcl
    ·exact em1.symm
   intro v h' ⟨c3,⟨hp3,hs3⟩,hv,hd⟩
   subst hv
   refine ⟨_,mut1 hd,rfl,?_⟩
   have hPt3 : Pt x y m c3 := hPt.right' (by omega) hp3
   have hO3 : Ou a b x y c3 := hO.pm (by omega) (hp3.wide (by omega) (Nat.le_refl _))
   have hc3 : Pm a b l c3 := hc.trans (hp3.wide (by omega) hO.bb)
   refine ⟨⟨(x,m,lm,decide (IntKind.i64.wrap ((y : Int) - (m : Int)) ≥ IntKind.i64.wrap ((IntKind.i64.wrap ((y : Int) - (x : Int))).tdiv 8)),q,c3),hc3,hO3.right hPt3 hs3⟩,by show m - x < y - x;omega,th [] 1,rfl,rfl,rfl,rfl,rfl,rfl,?_,?_⟩
   ·and_intros<;>try first|exact trivial|exact rfl
   ·and_intros<;>try first|exact trivial|exact rfl
  intro _;refine ⟨by kernel_rfl,?_⟩
  intro _
  refine call_mut [(0,some 0)] (part_ok c hB_c x y (p) (by omega) (by omega) (by omega) (by omega)) rfl rfl rfl rfl ?_ ?_ ?_
  ·and_intros<;>try first|exact trivial|exact rfl
  ·and_intros<;>try first|exact trivial|exact rfl
   exact hcl
  intro v h' ⟨c2,m,q,⟨hp2,hPt⟩,hv,hd⟩
  subst hv
  refine ⟨_,mut1 hd,rfl,?_⟩
  have hO : Ou a b x y c2 := hO.pm (by omega) hp2
  have hc : Pm a b l c2 := hc.trans (hp2.wide hO.aa hO.bb)
  have hcl : c2.length = l.length := hc.len
  have hB_c2 : Bd c2 := hc.bd hB_l
  have hlbx : Lb c2 x y := hO.lb (hlb.pm hc hab hb)
  have m1 := hPt.am
  have m2 := hPt.mb
  have eL : IntKind.i64.wrap ((m : Int) - (x : Int)) = ((m - x : Nat) : Int) := by rw [wrapS _ ⟨by omega,by omega⟩];omega
  have eR : IntKind.i64.wrap ((y : Int) - (m : Int)) = ((y - m : Nat) : Int) := by rw [wrapS _ ⟨by omega,by omega⟩];omega
  have em1 : IntKind.i64.wrap ((m : Int) + 1) = ((m + 1 : Nat) : Int) := by rw [wrapS _ ⟨by omega,by omega⟩];omega
  have lbL : Lb c2 x m := fun h0 k k1 k2=>hlbx h0 k k1 (by omega)
  have lbR : Lb c2 (m + 1) y := fun h0 k k1 k2=>hPt.right k (by omega) k2
  intro _;refine ⟨by omega,?_⟩
  intro _;refine ⟨fun g=>?_,fun g=>?_⟩
  ·intro _
   refine call_mut [(0,some 0)] (ih (m - x) (by omega) c2 hB_c2 x m (lm) (Nat.le_refl _) (by omega) (by omega) (by omega) lbL) rfl rfl rfl rfl ?_ ?_ ?_
   ·and_intros<;>try first|exact trivial|exact rfl
   ·and_intros<;>try first|exact trivial|exact rfl
    exact hcl
   intro v h' ⟨c3,⟨hp3,hs3⟩,hv,hd⟩
   subst hv
   refine ⟨_,mut1 hd,rfl,?_⟩
   have hPt3 : Pt x y m c3 := hPt.left' (by omega) hp3
   have hO3 : Ou a b x y c3 := hO.pm (by omega) (hp3.wide (Nat.le_refl _) (by omega))
   have hc3 : Pm a b l c3 := hc.trans (hp3.wide hO.aa (by omega))
   refine ⟨⟨(m + 1,y,lm,decide (IntKind.i64.wrap ((m : Int) - (x : Int)) ≥ IntKind.i64.wrap ((IntKind.i64.wrap ((y : Int) - (x : Int))).tdiv 8)),q,c3),hc3,hO3.left hPt3 hs3⟩,by show y - (m + 1) < y - x;omega,th [] 1,rfl,rfl,rfl,rfl,rfl,rfl,?_,?_⟩
   ·and_intros<;>try first|exact trivial|exact rfl
    exact em1.symm
   ·and_intros<;>try first|exact trivial|exact rfl
  intro _
  refine call_mut [(0,some 0)] (ih (y - (m + 1)) (by omega) c2 hB_c2 (m + 1) y (lm) (Nat.le_refl _) (by omega) (by omega) (by omega) lbR) rfl rfl rfl rfl ?_ ?_ ?_
  ·and_intros<;>try first|exact trivial|exact rfl
  ·and_intros<;>try first|exact trivial|exact rfl
   ·exact hcl
   ·exact em1.symm
  intro v h' ⟨c3,⟨hp3,hs3⟩,hv,hd⟩
  subst hv
  refine ⟨_,mut1 hd,rfl,?_⟩
  have hPt3 : Pt x y m c3 := hPt.right' (by omega) hp3
  have hO3 : Ou a b x y c3 := hO.pm (by omega) (hp3.wide (by omega) (Nat.le_refl _))
  have hc3 : Pm a b l c3 := hc.trans (hp3.wide (by omega) hO.bb)
  refine ⟨⟨(x,m,lm,decide (IntKind.i64.wrap ((y : Int) - (m : Int)) ≥ IntKind.i64.wrap ((IntKind.i64.wrap ((y : Int) - (x : Int))).tdiv 8)),q,c3),hc3,hO3.right hPt3 hs3⟩,by show m - x < y - x;omega,th [] 1,rfl,rfl,rfl,rfl,rfl,rfl,?_,?_⟩
  ·and_intros<;>try first|exact trivial|exact rfl
  ·and_intros<;>try first|exact trivial|exact rfl
 exact absurd (show wb = false from g) (by rw [hwb];decide)
end Go.Proofs.Ytbcjncoajilijaa.con
