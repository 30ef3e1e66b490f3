/-
 ContractMatchesReference: whatever the arguments, the law returns true, and its arguments read as before. No conditions.
-/
import Derived.Test.YtbcjncoajilijaaRows
import Derived.Test.YtbcjncoajilijaaVwOpen2
import Derived.Test.YtbcjncoajilijaaVwRules7
import Derived.WalkKit
import Derived.ProofKit
import Derived.OpenShut
import Derived.Carry
import Derived.Test.YtbcjncoajilijaaSrtA
import Derived.Test.YtbcjncoajilijaaSrtB
import Derived.Test.YtbcjncoajilijaaCrvA
import Derived.Test.YtbcjncoajilijaaConA
import Derived.Test.YtbcjncoajilijaaConB
namespace Go.Proofs.Ytbcjncoajilijaa.contractMatchesReference
open Go.ChangeShapes Go.WideShapes Go.ChangeAt Go.RowKit
open Go.Vm (Facts Val Sound)
open Go.Vm2
set_option linter.unusedVariables false
set_option linter.unusedSectionVars false
open Go.Proofs.Ytbcjncoajilijaa.con
theorem own : ownKnob Try.prog.godebug = none := by kernel_rfl
theorem laidOut : laidOutB Try.prog = true := by kernel_rfl
set_option maxRecDepth 100000
theorem PdR.uniq2 {nd mo : Int} {ps : Rws} {w : Int} {v u : V} (h : PdR nd mo ps w v) (k : PdR nd mo ps w u) : v = u := by
 rcases h with ⟨h1,h2,rfl⟩ | ⟨h1,rfl⟩ <;> rcases k with ⟨k1,k2,rfl⟩ | ⟨k1,rfl⟩
 ·rfl
 ·exact absurd ⟨h1,h2⟩ k1
 ·exact absurd ⟨k1,k2⟩ h1
 ·rfl
theorem PdR.form2 {nd mo : Int} {ps : Rws} {w : Int} {v : V} (h : PdR nd mo ps w v) : ∃ x e,v = .tup [.int .i64 x,.int .i64 e] := by
 rcases h with ⟨_,_,rfl⟩ | ⟨_,rfl⟩
 ·exact ⟨_,_,rfl⟩
 ·exact ⟨_,_,rfl⟩
def JuU (nd mo : Int) (ps : Rws) (a : Ac) (xn w k hh : Int) (A : Ac) (p : Int) (c : Bool) (e : Int) : Prop :=
 (Jok nd mo ps a xn w k hh∧A = jd k hh (pr (vals ps) (gx ps 0 0) w) mo a∧p = pr (vals ps) (gx ps 0 0) w∧c = decide (k = 1∧hh > pr (vals ps) (gx ps 0 0) w)∧e = 0) ∨ (¬ Jok nd mo ps a xn w k hh∧A = ⟨0,0,0,0,false⟩∧p = 0∧c = false∧e = 1)
theorem juU_uniq {nd mo : Int} {ps : Rws} {a : Ac} {xn w k hh : Int} {A A' : Ac} {p p' : Int} {c c' : Bool} {e e' : Int} (h : JuU nd mo ps a xn w k hh A p c e) (q : JuU nd mo ps a xn w k hh A' p' c' e') : A = A'∧p = p'∧c = c'∧e = e' := by
 rcases h with ⟨h1,rfl,rfl,rfl,rfl⟩ | ⟨h1,rfl,rfl,rfl,rfl⟩ <;> rcases q with ⟨k1,rfl,rfl,rfl,rfl⟩ | ⟨k1,rfl,rfl,rfl,rfl⟩
 ·exact ⟨rfl,rfl,rfl,rfl⟩
 ·exact absurd h1 k1
 ·exact absurd k1 h1
 ·exact ⟨rfl,rfl,rfl,rfl⟩
theorem judgeU {nd mo : Int} {ps : Rws} {a : Ac} {xn w k hh : Int} {fid : FuncId} {args : List V} {h : H} (hc : SemF Try.prog fid args h (fun v _=>JuR nd mo ps a xn w k hh v∧nameless v = true)) : SemF Try.prog fid args h (fun v _=>(∃ A p c e,JuU nd mo ps a xn w k hh A p c e∧v = .tup [AV_ A,.int .i64 p,.test c,.int .i64 e])∧nameless v = true) := by
 refine semF_seen (hc.mono fun v h' hv=>?_)
 obtain ⟨hv,hn⟩ := hv
 rcases hv with ⟨hJ,rfl⟩ | ⟨hJ,rfl⟩
 ·exact ⟨_,fun _ _ _ q=>q,⟨_,_,_,_,.inl ⟨hJ,rfl,rfl,rfl,rfl⟩,rfl⟩,rfl⟩
 ·exact ⟨.tup [AV_ ⟨0,0,0,0,false⟩,.int .i64 0,.test false,.int .i64 1],fun n ν a q=>by simpa only [Cv,Cvs] using q,⟨_,_,_,_,.inr ⟨hJ,rfl,rfl,rfl,rfl⟩,rfl⟩,rfl⟩
set_option maxHeartbeats 16000000 in
theorem law3 (nd mo : Int) (ps : Rws) (an ch cg la : Int) (fr : Bool) (l : Rws) (w : Int) (hb : gb ps) (hl : l.length≤9223372036854775807) : SemF Try.prog 3 [CV nd mo ps 0,.agg [.int .i64 an,.int .i64 ch,.int .i64 cg,.int .i64 la,.test fr],.slc 1 4 0 l.length,.int .i64 w] ⟨2,2,[(0,.arr PK .ro (.recs ps)),(1,.arr AK .ro (.recs l))]⟩ (fun v _=>IsTrue v) := by
 refine enter tt_ok Try.func3 (nt := 147) (cd := body Try.f3) rfl rfl rfl rfl ?_
 intro _
 refine call_pure [] (hd_ok) rfl rfl rfl ?_ ?_ ?_
 ·and_intros<;>try first|exact trivial|exact rfl
 ·and_intros<;>try first|exact trivial|exact rfl
 intro v hv _
 subst hv
 intro _
 refine call_pure [(0,some 0)] (rfew_ok nd mo ps hb.1) rfl rfl rfl ?_ ?_ ?_
 ·and_intros<;>try first|exact trivial|exact rfl
 ·and_intros<;>try first|exact trivial|exact rfl
 intro v hv _
 obtain ⟨b0,rfl⟩ := hv
 intro _;refine ⟨fun g=>?_,fun g=>?_⟩
 ·intro _
  show true = true
  rfl
 intro _;refine ⟨fun g=>?_,fun g=>?_⟩
 intro _;refine ⟨fun g=>?_,fun g=>?_⟩
 ·intro _
  show true = true
  rfl
 all_goals
  intro _
  refine call_pure [(0,some 0)] (promised_ok nd mo ps w hb) rfl rfl rfl ?_ ?_ ?_
  ·and_intros<;>try first|exact trivial|exact rfl
  ·and_intros<;>try first|exact trivial|exact rfl
  intro v hv _
  have hv1 := hv
  obtain ⟨x,e,rfl⟩ := PdR.form2 hv
  intro _
  refine call_pure [(0,some 0)] (rpromised_ok nd mo ps w hb) rfl rfl rfl ?_ ?_ ?_
  ·and_intros<;>try first|exact trivial|exact rfl
  ·and_intros<;>try first|exact trivial|exact rfl
  intro v hv _
  have hv := PdR.uniq2 hv hv1
  subst hv
  intro _;refine Or.inl ?_
  intro _
  refine call_pure [(0,some 0)] (toT (cvalid_ok nd mo ps hb)) rfl rfl rfl ?_ ?_ ?_
  ·and_intros<;>try first|exact trivial|exact rfl
  ·and_intros<;>try first|exact trivial|exact rfl
  intro v hv _
  obtain ⟨v1,hb1,rfl⟩ := hv
  intro _;refine Or.inl ?_
  intro _
  refine call_pure [(0,some 0)] (toT (rcvalid_ok nd mo ps hb)) rfl rfl rfl ?_ ?_ ?_
  ·and_intros<;>try first|exact trivial|exact rfl
  ·and_intros<;>try first|exact trivial|exact rfl
  intro v hv _
  obtain ⟨v2,hb2,rfl⟩ := hv
  have ev : v1 = v2 := by
   have := hb1.trans hb2.symm
   cases v1 <;> cases v2 <;> simp_all
  subst ev
  intro _;refine ⟨fun g=>?_,fun g=>?_⟩
  rotate_left
  ·exact absurd g (by simp)
  intro _;refine ⟨fun g=>?_,fun g=>?_⟩
  rotate_left
  ·exact absurd g (by simp)
  intro _;refine ⟨by kernel_rfl,?_⟩
  intro _;refine ⟨fun g=>?_,fun g=>?_⟩
  ·have g0 := of_decide_eq_true (show decide ((l.length : Int) > 0) = true from g)
   intro _;refine ⟨show (0 : Int)≤0∧(0 : Int) < (l.length : Int) by omega,?_⟩
   intro _;refine ⟨show 0 + (0 : Int).toNat < l.length by show 0 + 0 < l.length;omega,?_⟩
   intro _;refine Or.inl ?_
   intro _
   refine call_pure [(0,some 0)] (judgeU (judge2_ok nd mo ps ⟨an,ch,cg,la,fr⟩ (gx l 0 0) (gx l 0 1) (gx l 0 2) (gx l 0 3) hb)) rfl rfl rfl ?_ ?_ ?_
   ·and_intros<;>try first|exact trivial|exact rfl
   ·and_intros<;>try first|exact trivial|exact rfl
   intro v hv _
   obtain ⟨A,p,c,e3,hU,rfl⟩ := hv
   intro _;refine ⟨by kernel_rfl,?_⟩
   intro _;refine ⟨show (0 : Int)≤0∧(0 : Int) < (l.length : Int) by omega,?_⟩
   intro _;refine ⟨show 0 + (0 : Int).toNat < l.length by show 0 + 0 < l.length;omega,?_⟩
   intro _;refine Or.inl ?_
   intro _
   refine call_pure [(0,some 0)] (judgeU (rjudge2_ok nd mo ps ⟨an,ch,cg,la,fr⟩ (gx l 0 0) (gx l 0 1) (gx l 0 2) (gx l 0 3) hb)) rfl rfl rfl ?_ ?_ ?_
   ·and_intros<;>try first|exact trivial|exact rfl
   ·and_intros<;>try first|exact trivial|exact rfl
   intro v hv _
   obtain ⟨A',p',c',e4,hU',rfl⟩ := hv
   obtain ⟨r1,r2,r3,r4⟩ := juU_uniq hU hU'
   subst r1 r2 r3 r4
   intro _;refine ⟨by kernel_rfl,?_⟩
   intro _;refine ⟨fun g=>?_,fun g=>?_⟩
   rotate_left
   ·exact absurd g (by simp)
   intro _;refine ⟨fun g=>?_,fun g=>?_⟩
   rotate_left
   ·exact absurd g (by simp)
   intro _;refine ⟨fun g=>?_,fun g=>?_⟩
   rotate_left
   ·exact absurd g (by simp)
   intro _;refine ⟨fun g=>?_,fun g=>?_⟩
   rotate_left
   ·exact absurd g (by simp)
   intro _
   refine call_new [(0,some 0),(1,some 1)] (course_ok nd mo ps l hb hl) rfl rfl rfl rfl ?_ ?_ ?_
   ·and_intros<;>try first|exact trivial|exact rfl
   ·and_intros<;>try first|exact trivial|exact rfl
   intro v h' hv
   rcases hv with ⟨hC,rfl,rfl⟩ | ⟨hC,e1,he1,rfl,rfl⟩
   ·refine ⟨[(6,some 2)],7,[(6,.arr [.int .i64] .grow (.ints (hts ps l l.length)))],.tup [AV_ (acc mo ps l (A0 nd) l.length),.grw 6 l.length,.int .i64 0],rfl,rfl,rfl,rfl,rfl,?_,?_,?_⟩
    ·and_intros<;>try first|exact trivial|exact rfl
    ·and_intros<;>try first|exact trivial|exact rfl
    intro _
    refine call_new [(0,some 0),(1,some 1)] (rcourse_ok nd mo ps l hb hl) rfl rfl rfl rfl ?_ ?_ ?_
    ·and_intros<;>try first|exact trivial|exact rfl
    ·and_intros<;>try first|exact trivial|exact rfl
    intro v h' hv
    rcases hv with ⟨_,rfl,rfl⟩ | ⟨h,_⟩
    rotate_left
    ·exact absurd hC h
    refine ⟨[(8,some 2)],9,[(8,.arr [.int .i64] .grow (.ints (hts ps l l.length)))],.tup [AV_ (acc mo ps l (A0 nd) l.length),.grw 8 l.length,.int .i64 0],rfl,rfl,rfl,rfl,rfl,?_,?_,?_⟩
    ·and_intros<;>try first|exact trivial|exact rfl
    ·and_intros<;>try first|exact trivial|exact rfl
    intro _;refine ⟨fun g=>?_,fun g=>?_⟩
    rotate_left
    ·exact absurd g (by simp)
    intro _;refine ⟨fun g=>?_,fun g=>?_⟩
    rotate_left
    ·exact absurd g (by simp)
    intro _
    refine call_pure [(0,some 6),(1,some 8)] (sameInts_ok (hts ps l l.length) (hts ps l l.length) (by rw [hts_len];exact hl) (by rw [hts_len];exact hl)) rfl rfl rfl ?_ ?_ ?_
    ·and_intros<;>try first|exact trivial|exact rfl
    ·and_intros<;>try first|exact trivial|exact rfl
     all_goals first | exact hts_len _ _ _ | exact (hts_len _ _ _).symm
    intro v hv _
    subst hv
    intro _;refine ⟨fun g=>?_,fun g=>?_⟩
    rotate_left
    ·exact absurd g (by simp)
    intro _
    show ((0 : Int) == 0) = true
    rfl
   refine ⟨[],6,[],.tup [Z5,.nils,.int .i64 e1],rfl,rfl,rfl,rfl,rfl,?_,?_,?_⟩
   ·and_intros<;>try first|exact trivial|exact rfl
   ·and_intros<;>try first|exact trivial|exact rfl
   intro _
   refine call_new [(0,some 0),(1,some 1)] (rcourse_ok nd mo ps l hb hl) rfl rfl rfl rfl ?_ ?_ ?_
   ·and_intros<;>try first|exact trivial|exact rfl
   ·and_intros<;>try first|exact trivial|exact rfl
   intro v h' hv
   rcases hv with ⟨h,_⟩ | ⟨_,e2,he2,rfl,rfl⟩
   ·exact absurd h hC
   have ee : e2 = e1 := by
    rcases he1 with ⟨rfl,q⟩ | ⟨rfl,q⟩ <;> rcases he2 with ⟨rfl,q'⟩ | ⟨rfl,q'⟩
    ·rfl
    ·exact absurd q q'
    ·exact absurd q' q
    ·rfl
   subst ee
   refine ⟨[],7,[],.tup [Z5,.nils,.int .i64 e2],rfl,rfl,rfl,rfl,rfl,?_,?_,?_⟩
   ·and_intros<;>try first|exact trivial|exact rfl
   ·and_intros<;>try first|exact trivial|exact rfl
   intro _;refine ⟨fun g=>?_,fun g=>?_⟩
   rotate_left
   ·exact absurd g (by simp)
   intro _;refine ⟨fun g=>?_,fun g=>?_⟩
   rotate_left
   ·exact absurd g (by simp)
   intro _
   refine call_pure [(0,none),(1,none)] (sameInts_ok [] [] (by decide) (by decide)) rfl rfl rfl ?_ ?_ ?_
   ·and_intros<;>try first|exact trivial|exact rfl
   ·and_intros<;>try first|exact trivial|exact rfl
   intro v hv _
   subst hv
   intro _;refine ⟨fun g=>?_,fun g=>?_⟩
   rotate_left
   ·exact absurd g (by simp)
   intro _
   show (e2 == e2) = true
   simp
  intro _
  refine call_new [(0,some 0),(1,some 1)] (course_ok nd mo ps l hb hl) rfl rfl rfl rfl ?_ ?_ ?_
  ·and_intros<;>try first|exact trivial|exact rfl
  ·and_intros<;>try first|exact trivial|exact rfl
  intro v h' hv
  rcases hv with ⟨hC,rfl,rfl⟩ | ⟨hC,e1,he1,rfl,rfl⟩
  ·refine ⟨[(4,some 2)],5,[(4,.arr [.int .i64] .grow (.ints (hts ps l l.length)))],.tup [AV_ (acc mo ps l (A0 nd) l.length),.grw 4 l.length,.int .i64 0],rfl,rfl,rfl,rfl,rfl,?_,?_,?_⟩
   ·and_intros<;>try first|exact trivial|exact rfl
   ·and_intros<;>try first|exact trivial|exact rfl
   intro _
   refine call_new [(0,some 0),(1,some 1)] (rcourse_ok nd mo ps l hb hl) rfl rfl rfl rfl ?_ ?_ ?_
   ·and_intros<;>try first|exact trivial|exact rfl
   ·and_intros<;>try first|exact trivial|exact rfl
   intro v h' hv
   rcases hv with ⟨_,rfl,rfl⟩ | ⟨h,_⟩
   rotate_left
   ·exact absurd hC h
   refine ⟨[(6,some 2)],7,[(6,.arr [.int .i64] .grow (.ints (hts ps l l.length)))],.tup [AV_ (acc mo ps l (A0 nd) l.length),.grw 6 l.length,.int .i64 0],rfl,rfl,rfl,rfl,rfl,?_,?_,?_⟩
   ·and_intros<;>try first|exact trivial|exact rfl
   ·and_intros<;>try first|exact trivial|exact rfl
   intro _;refine ⟨fun g=>?_,fun g=>?_⟩
   rotate_left
   ·exact absurd g (by simp)
   intro _;refine ⟨fun g=>?_,fun g=>?_⟩
   rotate_left
   ·exact absurd g (by simp)
   intro _
   refine call_pure [(0,some 4),(1,some 6)] (sameInts_ok (hts ps l l.length) (hts ps l l.length) (by rw [hts_len];exact hl) (by rw [hts_len];exact hl)) rfl rfl rfl ?_ ?_ ?_
   ·and_intros<;>try first|exact trivial|exact rfl
   ·and_intros<;>try first|exact trivial|exact rfl
    all_goals first | exact hts_len _ _ _ | exact (hts_len _ _ _).symm
   intro v hv _
   subst hv
   intro _;refine ⟨fun g=>?_,fun g=>?_⟩
   rotate_left
   ·exact absurd g (by simp)
   intro _
   show ((0 : Int) == 0) = true
   rfl
  refine ⟨[],4,[],.tup [Z5,.nils,.int .i64 e1],rfl,rfl,rfl,rfl,rfl,?_,?_,?_⟩
  ·and_intros<;>try first|exact trivial|exact rfl
  ·and_intros<;>try first|exact trivial|exact rfl
  intro _
  refine call_new [(0,some 0),(1,some 1)] (rcourse_ok nd mo ps l hb hl) rfl rfl rfl rfl ?_ ?_ ?_
  ·and_intros<;>try first|exact trivial|exact rfl
  ·and_intros<;>try first|exact trivial|exact rfl
  intro v h' hv
  rcases hv with ⟨h,_⟩ | ⟨_,e2,he2,rfl,rfl⟩
  ·exact absurd h hC
  have ee : e2 = e1 := by
   rcases he1 with ⟨rfl,q⟩ | ⟨rfl,q⟩ <;> rcases he2 with ⟨rfl,q'⟩ | ⟨rfl,q'⟩
   ·rfl
   ·exact absurd q q'
   ·exact absurd q' q
   ·rfl
  subst ee
  refine ⟨[],5,[],.tup [Z5,.nils,.int .i64 e2],rfl,rfl,rfl,rfl,rfl,?_,?_,?_⟩
  ·and_intros<;>try first|exact trivial|exact rfl
  ·and_intros<;>try first|exact trivial|exact rfl
  intro _;refine ⟨fun g=>?_,fun g=>?_⟩
  rotate_left
  ·exact absurd g (by simp)
  intro _;refine ⟨fun g=>?_,fun g=>?_⟩
  rotate_left
  ·exact absurd g (by simp)
  intro _
  refine call_pure [(0,none),(1,none)] (sameInts_ok [] [] (by decide) (by decide)) rfl rfl rfl ?_ ?_ ?_
  ·and_intros<;>try first|exact trivial|exact rfl
  ·and_intros<;>try first|exact trivial|exact rfl
  intro v hv _
  subst hv
  intro _;refine ⟨fun g=>?_,fun g=>?_⟩
  rotate_left
  ·exact absurd g (by simp)
  intro _
  show (e2 == e2) = true
  simp
theorem agg_cv {n : Nat} {ν : Nu} {vs : List V} {as' : List Go.Vm.AV} (h : Cvs n ν vs as') : Cv n ν (.agg vs) (.agg as') := by
 simp only [Cv];exact ⟨as',rfl,h⟩
def fieldsSt (P : Program) : Nat→List Field→List TypeId→Bool
 | _,[],[]=>true
 | j,f :: fs,u :: us=>Nat.beq f.offset j && Nat.beq (P.cellsOf f.type) 1 && Nat.beq f.type u && fieldsSt P (j + 1) fs us
 | _,_,_=>false
theorem fieldsSt_get {P : Program} : ∀ {fs : List Field} {ts : List TypeId} {j0 : Nat},fieldsSt P j0 fs ts = true→∀ (j : Nat) (u : TypeId),ts[j]? = some u→∃ f,fs[j]? = some f∧f.offset = j0 + j∧P.cellsOf f.type = 1∧f.type = u
 | [],[],_,_=>fun j u e=>by simp at e
 | [],_ :: _,_,h=>by simp [fieldsSt] at h
 | _ :: _,[],_,h=>by simp [fieldsSt] at h
 | f :: fs,u :: us,j0,h=>by
  simp only [fieldsSt,Bool.and_eq_true] at h
  obtain ⟨⟨⟨h1,h2⟩,h3⟩,h4⟩ := h
  intro j u' e
  cases j with
  | zero =>
   simp at e;subst e
   exact ⟨f,rfl,Nat.eq_of_beq_eq_true h1,Nat.eq_of_beq_eq_true h2,Nat.eq_of_beq_eq_true h3⟩
  | succ j =>
   simp at e
   obtain ⟨f',e1,e2,e3⟩ := fieldsSt_get h4 j u' e
   exact ⟨f',by simpa using e1,by rw [e2];omega,e3⟩
theorem open_st {H : Type} {enc : TypeId × Value→H} {P : Program} {w : World} {base : Nat} {spare : Nat→Bool} {held : Bool} {r : Reach} {t : TypeId} {fs : Array Field} {ts : List TypeId} {v : Value} {d : DataW H} {p : List MemPlace} (ht : P.underlying t = some (.struct fs)) (hts : P.cellTypes P.depth t = some ts) (hC : P.cellsOf t = ts.length) (hf : fieldsSt P 0 fs.toList ts = true)
  (hval : Value.okWide P w r base t v) (h : DataW.Trod enc P w 0 spare held t v d p) :
  ∃ cs : Array Value,v = .agg cs∧cs.size = ts.length∧∀ (j : Nat) (u : TypeId),ts[j]? = some u→∃ x d' p' fuel,cs[j]? = some x∧Cell.okWide P w r base u x∧DataW.trod enc P w 0 spare held fuel u [x] = some (d',p') := by
 unfold Value.okWide at hval
 rw [ht] at hval
 obtain ⟨cs,rfl,hs,ts',ht',_,hk⟩ := hval
 rw [hts] at ht'
 simp only [Option.some.injEq] at ht'
 subst ht'
 obtain ⟨fuel,h⟩ := h
 obtain ⟨xs,n,_,_,hl,hxl,hf'⟩ := DataW.trod_struct ht h
 refine ⟨cs,rfl,by rw [hs,hC],fun j u hu=>?_⟩
 obtain ⟨f,e1,e2,e3,rfl⟩ := fieldsSt_get hf j u hu
 have hj : j < ts.length := (List.getElem?_eq_some_iff.1 hu).1
 have hjc : j < cs.size := by rw [hs,hC];exact hj
 obtain ⟨u',hu',hok⟩ := hk j cs[j] (by simp [hjc])
 rw [Nat.mod_eq_of_lt hj,hu] at hu'
 cases hu'
 have e4 := hf' j f (by simpa using e1)
 rw [e2,e3,Nat.zero_add] at e4
 have e5 : ((Value.agg cs).cells.toList.drop j).take 1 = [cs[j]] := by
  show (cs.toList.drop j).take 1 = _
  rw [List.drop_eq_getElem_cons (by simpa using hjc)];simp
 rw [e5] at e4
 have hjf : j < fs.toList.length := (List.getElem?_eq_some_iff.1 e1).1
 have hjx : j < xs.length := by rw [hxl];simpa using hjf
 rw [List.getElem?_eq_getElem hjx] at e4
 exact ⟨cs[j],xs[j].1,xs[j].2,n,by simp [hjc],hok,e4⟩
theorem walk (w : World) (nd : Int) (w_nd : (Lit.int .i64 nd).wf = true) (mo : Int) (w_mo : (Lit.int .i64 mo).wf = true) (v_ps : Value) (s_ps : Src) (ps : List (List Go.Vm2.D)) (cap_ps : Nat) (hk_ps : s_ps.ks = [.int .i64,.int .i64,.int .i64,.int .i64,.int .i64]) (ha_ps : s_ps.ac = .recs ps) (hs_ps : s_ps.lies w) (hn_ps : s_ps.at_ = none→ps.length = 0) (hc_ps : ps.length≤cap_ps) (hv_ps : v_ps = s_ps.val cap_ps) (hm_ps : ps.length≤maxLen) (w_ps : ∀ n ∈ ps,rowWf [.int .i64,.int .i64,.int .i64,.int .i64,.int .i64] n) (an : Int) (w_an : (Lit.int .i64 an).wf = true) (ch : Int) (w_ch : (Lit.int .i64 ch).wf = true) (cg : Int) (w_cg : (Lit.int .i64 cg).wf = true) (lb : Int) (w_lb : (Lit.int .i64 lb).wf = true) (fr : Bool) (v_la : Value) (s_la : Src) (la : List (List Go.Vm2.D)) (cap_la : Nat) (hk_la : s_la.ks = [.int .i64,.int .i64,.int .i64,.int .i64]) (ha_la : s_la.ac = .recs la) (hs_la : s_la.lies w) (hn_la : s_la.at_ = none→la.length = 0) (hc_la : la.length≤cap_la) (hv_la : v_la = s_la.val cap_la) (hm_la : la.length≤maxLen) (w_la : ∀ n ∈ la,rowWf [.int .i64,.int .i64,.int .i64,.int .i64] n) (wd : Int) (w_wd : (Lit.int .i64 wd).wf = true) :
  Calls Try.prog 3 #[.agg #[.int .i64 nd,.int .i64 mo,v_ps],.agg #[.int .i64 an,.int .i64 ch,.int .i64 cg,.int .i64 lb,.bool fr],v_la,.int .i64 wd] w fun e w'=>e = .returned (.bool true)∧Below w.heap.size w w' := by
 obtain ⟨at_ps,ks_ps,ac_ps⟩ := s_ps
 simp only [] at hk_ps ha_ps
 subst hk_ps ha_ps
 have h_ps : ps.length≤9223372036854775807 := by unfold maxLen at hm_ps;omega
 obtain ⟨at_la,ks_la,ac_la⟩ := s_la
 simp only [] at hk_la ha_la
 subst hk_la ha_la
 have h_la : la.length≤9223372036854775807 := by unfold maxLen at hm_la;omega
 have b_nd := w_nd
 simp [Lit.wf,IntKind.min,IntKind.max,IntKind.signed,IntKind.bits] at b_nd
 have b_mo := w_mo
 simp [Lit.wf,IntKind.min,IntKind.max,IntKind.signed,IntKind.bits] at b_mo
 have b_an := w_an
 simp [Lit.wf,IntKind.min,IntKind.max,IntKind.signed,IntKind.bits] at b_an
 have b_ch := w_ch
 simp [Lit.wf,IntKind.min,IntKind.max,IntKind.signed,IntKind.bits] at b_ch
 have b_cg := w_cg
 simp [Lit.wf,IntKind.min,IntKind.max,IntKind.signed,IntKind.bits] at b_cg
 have b_lb := w_lb
 simp [Lit.wf,IntKind.min,IntKind.max,IntKind.signed,IntKind.bits] at b_lb
 have b_wd := w_wd
 simp [Lit.wf,IntKind.min,IntKind.max,IntKind.signed,IntKind.bits] at b_wd
 exact top_run (by kernel_rfl) (by kernel_rfl) (T := []) (fun f hf w=>by
   exact (List.not_mem_nil hf).elim) (l := [⟨at_ps,[.int .i64,.int .i64,.int .i64,.int .i64,.int .i64],.recs ps⟩,⟨at_la,[.int .i64,.int .i64,.int .i64,.int .i64],.recs la⟩]) (args := [.agg [.int .i64 nd,.int .i64 mo,.slc 0 5 0 ps.length],.agg [.int .i64 an,.int .i64 ch,.int .i64 cg,.int .i64 lb,.test fr],.slc 1 4 0 la.length,.int .i64 wd]) («as» := [.agg [.int .i64 nd,.int .i64 mo,Src.av 0 cap_ps ⟨at_ps,[.int .i64,.int .i64,.int .i64,.int .i64,.int .i64],.recs ps⟩],.agg [.int .i64 an,.int .i64 ch,.int .i64 cg,.int .i64 lb,.bool fr],Src.av 1 cap_la ⟨at_la,[.int .i64,.int .i64,.int .i64,.int .i64],.recs la⟩,.int .i64 wd]) (cargs := [.agg #[.int .i64 nd,.int .i64 mo,v_ps],.agg #[.int .i64 an,.int .i64 ch,.int .i64 cg,.int .i64 lb,.bool fr],v_la,.int .i64 wd]) w
  (fun s h=>by
   rcases List.mem_cons.1 h with e | h
   ·subst e;exact hs_ps
   ·rcases List.mem_cons.1 h with e | h
    ·subst e;exact hs_la
    ·exact (List.not_mem_nil h).elim)
  (Cvs.cons (agg_cv (Cvs.cons mk_int (Cvs.cons mk_int (Cvs.cons (src_cv (s := ⟨at_ps,[.int .i64,.int .i64,.int .i64,.int .i64,.int .i64],.recs ps⟩) rfl 5 hc_ps hn_ps) Cvs.nil)))) (Cvs.cons (agg_cv (Cvs.cons mk_int (Cvs.cons mk_int (Cvs.cons mk_int (Cvs.cons mk_int (Cvs.cons mk_test Cvs.nil)))))) (Cvs.cons (src_cv (s := ⟨at_la,[.int .i64,.int .i64,.int .i64,.int .i64],.recs la⟩) rfl 4 hc_la hn_la) (Cvs.cons mk_int Cvs.nil))))
  (by simp only [Go.Vm.convs,Go.Vm.conv];rw [src_conv (j := 0) (s := ⟨at_ps,[.int .i64,.int .i64,.int .i64,.int .i64,.int .i64],.recs ps⟩) rfl,src_conv (j := 1) (s := ⟨at_la,[.int .i64,.int .i64,.int .i64,.int .i64],.recs la⟩) rfl];subst hv_ps hv_la;rfl)
  (law3 nd mo ps an ch cg lb fr la wd (gb_of h_ps w_ps) h_la)
set_option maxRecDepth 100000 in
theorem lifted (os : Os) (started : os.Started) (H : Type) (enc : TypeId × Value→H) :
  ReturnsInHanded {} Try.checked os 3 .any (Rows.contractMatchesReferenceSpec.pre6 enc Try.prog Try.f3 Rows.contractMatchesReferenceRow.domain false) (Rows.contractMatchesReferenceSpec.post enc Try.prog Try.f3 false true false false) := by
 refine returnsInHanded_of_change (C := Try.checked) own started (by kernel_rfl) Try.func3
  (ChangeSpec.witness6 (enc := enc) (C := Try.checked) false ⟨#[],#[.agg #[.int .i64 0,.int .i64 0,.slice none 0 0],.agg #[.int .i64 0,.int .i64 0,.int .i64 0,.int .i64 0,.bool false],.slice none 0 0,.int .i64 0],[]⟩ 8 (by kernel_rfl) (by kernel_rfl) (by kernel_rfl) (by kernel_rfl)) ?_
 intro W base args ds gs before hval0 hW hcnd _
 have hval : ∀ (j : Nat) t v,Try.f3.params[j]? = some t→args[j]? = some v→Value.okWide Try.prog W .any base t v := hval0
 have hW' := hW
 obtain ⟨p,q,hA0,hV,rfl,hfz,hnd⟩ := hW
 have hA : DataW.TrodAll enc Try.prog W 0 (fun _=>true) true Try.f3.params.toList args.toList ds p := hA0
 rw [Try.params3] at hA hval
 obtain ⟨v0,vs0,d0,ds0,p0,q0,hargs,rfl,rfl,h0,r0⟩ := trodAll_cons hA
 obtain ⟨v1,vs1,d1,ds1,p1,q1,rfl,rfl,rfl,h1,r1⟩ := trodAll_cons r0
 obtain ⟨v2,vs2,d2,ds2,p2,q2,rfl,rfl,rfl,h2,r2⟩ := trodAll_cons r1
 obtain ⟨v3,vs3,d3,ds3,p3,q3,rfl,rfl,rfl,h3,r3⟩ := trodAll_cons r2
 obtain ⟨rfl,rfl,rfl⟩ := trodAll_nil r3
 obtain rfl : args = #[v0,v1,v2,v3] := by cases args;simp_all
 obtain ⟨rfl,rfl⟩ := trodVars_none hV
 obtain ⟨cs_c,rfl,hz_c,hs_c⟩ := open_st (ts := [3,3,22]) Try.underlying24 (by kernel_rfl) (by kernel_rfl) (by kernel_rfl) (hval 0 24 v0 rfl rfl) h0
 have hlt0 : ∀ x ∈ p0,x.block < W.heap.size := fun x hx=>by simpa using hW'.lt x (by simp [hx])
 obtain ⟨x_nd,d_nd,p_nd,fu_nd,hx_nd,hk0_nd,ht_nd⟩ := hs_c 0 3 rfl
 have hkk_nd : Value.okWide Try.prog W .any base 3 x_nd := by unfold Value.okWide;rw [Try.underlying3];exact hk0_nd
 obtain ⟨x_mo,d_mo,p_mo,fu_mo,hx_mo,hk0_mo,ht_mo⟩ := hs_c 1 3 rfl
 have hkk_mo : Value.okWide Try.prog W .any base 3 x_mo := by unfold Value.okWide;rw [Try.underlying3];exact hk0_mo
 obtain ⟨x_ps,d_ps,p_ps,fu_ps,hx_ps,hk0_ps,ht_ps⟩ := hs_c 2 22 rfl
 have hkk_ps : Value.okWide Try.prog W .any base 22 x_ps := by unfold Value.okWide;rw [Try.underlying22];exact hk0_ps
 have hcs_c : cs_c = #[x_nd,x_mo,x_ps] := by
  refine Array.ext (by rw [hz_c];rfl) fun i h1 h2=>?_
  have hi : i < 3 := by simpa using h2
  rcases i with _ | _ | _ | i
  ·have := hx_nd;rw [Array.getElem?_eq_getElem h1] at this;exact Option.some.inj this
  ·have := hx_mo;rw [Array.getElem?_eq_getElem h1] at this;exact Option.some.inj this
  ·have := hx_ps;rw [Array.getElem?_eq_getElem h1] at this;exact Option.some.inj this
  ·omega
 subst hcs_c
 obtain ⟨nd,hq_nd,_,w_nd⟩ := DataW.trod_int Try.underlying3 ht_nd
 simp only [List.cons.injEq,and_true] at hq_nd
 subst hq_nd
 obtain ⟨mo,hq_mo,_,w_mo⟩ := DataW.trod_int Try.underlying3 ht_mo
 simp only [List.cons.injEq,and_true] at hq_mo
 subst hq_mo
 have htt_ps : DataW.Trod enc Try.prog W 0 (fun _=>true) true 22 x_ps d_ps p_ps := by obtain ⟨ao,len,cap,rfl⟩ := okWide_slice Try.underlying22 hkk_ps;exact ⟨fu_ps,ht_ps⟩
 obtain ⟨s_ps,ps,cap_ps,hk_ps,ha_ps,hs_ps,hn_ps,hc_ps,hv_ps,hm_ps,w_ps⟩ := Go.Vm2.open_recsN (dp := 3) (ks := [.int .i64,.int .i64,.int .i64,.int .i64,.int .i64]) Try.underlying22 (by kernel_rfl) (by simp) (by kernel_rfl) hkk_ps htt_ps
 obtain ⟨cs_a,rfl,hz_a,hs_a⟩ := open_st (ts := [3,3,3,3,4]) Try.underlying26 (by kernel_rfl) (by kernel_rfl) (by kernel_rfl) (hval 1 26 v1 rfl rfl) h1
 have hlt1 : ∀ x ∈ p1,x.block < W.heap.size := fun x hx=>by simpa using hW'.lt x (by simp [hx])
 obtain ⟨x_an,d_an,p_an,fu_an,hx_an,hk0_an,ht_an⟩ := hs_a 0 3 rfl
 have hkk_an : Value.okWide Try.prog W .any base 3 x_an := by unfold Value.okWide;rw [Try.underlying3];exact hk0_an
 obtain ⟨x_ch,d_ch,p_ch,fu_ch,hx_ch,hk0_ch,ht_ch⟩ := hs_a 1 3 rfl
 have hkk_ch : Value.okWide Try.prog W .any base 3 x_ch := by unfold Value.okWide;rw [Try.underlying3];exact hk0_ch
 obtain ⟨x_cg,d_cg,p_cg,fu_cg,hx_cg,hk0_cg,ht_cg⟩ := hs_a 2 3 rfl
 have hkk_cg : Value.okWide Try.prog W .any base 3 x_cg := by unfold Value.okWide;rw [Try.underlying3];exact hk0_cg
 obtain ⟨x_lb,d_lb,p_lb,fu_lb,hx_lb,hk0_lb,ht_lb⟩ := hs_a 3 3 rfl
 have hkk_lb : Value.okWide Try.prog W .any base 3 x_lb := by unfold Value.okWide;rw [Try.underlying3];exact hk0_lb
 obtain ⟨x_fr,d_fr,p_fr,fu_fr,hx_fr,hk0_fr,ht_fr⟩ := hs_a 4 4 rfl
 have hkk_fr : Value.okWide Try.prog W .any base 4 x_fr := by unfold Value.okWide;rw [Try.underlying4];exact hk0_fr
 have hcs_a : cs_a = #[x_an,x_ch,x_cg,x_lb,x_fr] := by
  refine Array.ext (by rw [hz_a];rfl) fun i h1 h2=>?_
  have hi : i < 5 := by simpa using h2
  rcases i with _ | _ | _ | _ | _ | i
  ·have := hx_an;rw [Array.getElem?_eq_getElem h1] at this;exact Option.some.inj this
  ·have := hx_ch;rw [Array.getElem?_eq_getElem h1] at this;exact Option.some.inj this
  ·have := hx_cg;rw [Array.getElem?_eq_getElem h1] at this;exact Option.some.inj this
  ·have := hx_lb;rw [Array.getElem?_eq_getElem h1] at this;exact Option.some.inj this
  ·have := hx_fr;rw [Array.getElem?_eq_getElem h1] at this;exact Option.some.inj this
  ·omega
 subst hcs_a
 obtain ⟨an,hq_an,_,w_an⟩ := DataW.trod_int Try.underlying3 ht_an
 simp only [List.cons.injEq,and_true] at hq_an
 subst hq_an
 obtain ⟨ch,hq_ch,_,w_ch⟩ := DataW.trod_int Try.underlying3 ht_ch
 simp only [List.cons.injEq,and_true] at hq_ch
 subst hq_ch
 obtain ⟨cg,hq_cg,_,w_cg⟩ := DataW.trod_int Try.underlying3 ht_cg
 simp only [List.cons.injEq,and_true] at hq_cg
 subst hq_cg
 obtain ⟨lb,hq_lb,_,w_lb⟩ := DataW.trod_int Try.underlying3 ht_lb
 simp only [List.cons.injEq,and_true] at hq_lb
 subst hq_lb
 obtain ⟨fr,hq_fr,_⟩ := DataW.trod_bool Try.underlying4 ht_fr
 simp only [List.cons.injEq,and_true] at hq_fr
 subst hq_fr
 obtain ⟨s_la,la,cap_la,hk_la,ha_la,hs_la,hn_la,hc_la,hv_la,hm_la,w_la⟩ := Go.Vm2.open_recs (ks := [.int .i64,.int .i64,.int .i64,.int .i64]) Try.underlying27 Try.underlying36 (by kernel_rfl) (by simp) (by kernel_rfl) (hval 2 27 v2 rfl rfl) h2
 have hlt2 : ∀ x ∈ p2,x.block < W.heap.size := fun x hx=>by simpa using hW'.lt x (by simp [hx])
 obtain ⟨wd,rfl,rfl,rfl,w_wd⟩ := open_int Try.underlying3 (hval 3 3 v3 rfl rfl) h3
 clear hA0 hval0
 refine (walk W nd w_nd mo w_mo x_ps s_ps ps cap_ps hk_ps ha_ps hs_ps hn_ps hc_ps hv_ps hm_ps w_ps an w_an ch w_ch cg w_cg lb w_lb fr v2 s_la la cap_la hk_la ha_la hs_la hn_la hc_la hv_la hm_la w_la wd w_wd).mono fun e W' ⟨he,hg⟩=>?_
 subst he
 exact ⟨_,rfl,_,_,_,[],_,[],hW',trodAll_cons_mk (shut_bool Try.underlying4 _) trodAll_mk0,(trodAll_cons_mk (Below.trod laidOut (by kernel_rfl) (of_decide_eq_true (by kernel_rfl)) h0 hg hlt0) (trodAll_cons_mk (Below.trod laidOut (by kernel_rfl) (of_decide_eq_true (by kernel_rfl)) h1 hg hlt1) (trodAll_cons_mk (Below.trod laidOut (by kernel_rfl) (of_decide_eq_true (by kernel_rfl)) h2 hg hlt2) (trodAll_cons_mk (shut_int Try.underlying3 w_wd) trodAll_mk0)))),rfl,hg.frame _,fun h=>by cases h⟩
theorem over : Rows.contractMatchesReferenceRow.holds Try.pinned (OpenSpec.ofChange Rows.contractMatchesReferenceSpec) :=
 OpenClaim.holds_of_wide 3 Try.f3 rfl rfl rfl rfl rfl rfl rfl ⟨rfl,rfl,rfl,rfl,rfl⟩ rfl rfl rfl rfl rfl (by kernel_rfl) Try.func3 (by kernel_rfl)
  (of_decide_eq_true (by kernel_rfl)) (by unfold Func.isWrapper;first | (rw [if_pos (by decide +kernel)];kernel_rfl) | (rw [if_neg (by decide +kernel)];exact ⟨rfl,rfl⟩))
  (fun os started H enc _=>lifted os started H enc)
theorem proved : Rows.ContractMatchesReferenceSaid :=
 over
#print axioms proved
end Go.Proofs.Ytbcjncoajilijaa.contractMatchesReference
