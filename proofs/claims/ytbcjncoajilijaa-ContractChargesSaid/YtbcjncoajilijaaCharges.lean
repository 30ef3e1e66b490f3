/-
 ContractCharges: whatever the arguments, the law returns true, and its arguments read as before. No conditions.
-/
import Derived.Test.YtbcjncoajilijaaRows
import Derived.Test.YtbcjncoajilijaaVwOpen2
import Derived.Test.YtbcjncoajilijaaVwRules7
import Derived.WalkKit
import Derived.ProofKit
import Derived.OpenShut
import Derived.Carry
import Derived.Test.YtbcjncoajilijaaSrtA
import Derived.Test.YtbcjncoajilijaaSrtB
import Derived.Test.YtbcjncoajilijaaCrvA
import Derived.Test.YtbcjncoajilijaaConA
namespace Go.Proofs.Ytbcjncoajilijaa.contractCharges
open Go.ChangeShapes Go.WideShapes Go.ChangeAt Go.RowKit
open Go.Vm (Facts Val Sound)
open Go.Vm2
set_option linter.unusedVariables false
set_option linter.unusedSectionVars false
open Go.Proofs.Ytbcjncoajilijaa.con
theorem own : ownKnob Try.prog.godebug = none := by kernel_rfl
theorem laidOut : laidOutB Try.prog = true := by kernel_rfl
set_option maxRecDepth 100000
theorem raw_hts (ps l : Rws) : ∀ n k, k < n → raw (hts ps l n) k = pr (vals ps) (gx ps 0 0) (gx l k 1)
 | n + 1, k, h => by
  unfold raw
  rw [List.getD_eq_getElem?_getD]
  show ((hts ps l n ++ [pr (vals ps) (gx ps 0 0) (gx l n 1)])[k]?).getD 0 = _
  rw [List.getElem?_append, hts_len]
  by_cases e : k < n
  ·rw [if_pos e]
   have := raw_hts ps l n k e
   unfold raw at this
   rw [List.getD_eq_getElem?_getD] at this
   exact this
  ·have e2 : k = n := by omega
   subst e2
   rw [if_neg e, Nat.sub_self]; rfl
abbrev BA (a : Ac) : Ob := .cells [.int .i64 a.nd, .int .i64 a.ch, .int .i64 a.cg, .int .i64 a.la, .test a.fr]
abbrev DL (ps l : Rws) : List (Nat × Ob) := [(0, .arr PK .ro (.recs ps)), (1, .arr AK .ro (.recs l))]
theorem acc_fr {nd mo : Int} {ps l : Rws} (hmo : 0 ≤ mo) (nn : (A0 nd).nd = nd) : ∀ k, (acc mo ps l (A0 nd) k).fr = decide ((acc mo ps l (A0 nd) k).cg > mo) ∧ (acc mo ps l (A0 nd) k).ch ≤ k ∧ (acc mo ps l (A0 nd) k).cg ≤ k
 | 0 => ⟨(decide_eq_false (show ¬ (0 : Int) > mo by omega)).symm, Int.le_refl _, Int.le_refl _⟩
 | k + 1 => by
  obtain ⟨h1, h2, h3⟩ := acc_fr hmo nn k
  show (jd _ _ _ mo (acc mo ps l (A0 nd) k)).fr = decide ((jd _ _ _ mo (acc mo ps l (A0 nd) k)).cg > mo) ∧ (jd _ _ _ mo (acc mo ps l (A0 nd) k)).ch ≤ ((k + 1 : Nat) : Int) ∧ (jd _ _ _ mo (acc mo ps l (A0 nd) k)).cg ≤ ((k + 1 : Nat) : Int)
  cases hf : (acc mo ps l (A0 nd) k).fr with
  | true =>
   have e : ∀ x y z, jd x y z mo (acc mo ps l (A0 nd) k) = acc mo ps l (A0 nd) k := fun x y z => by unfold jd; rw [if_pos hf]
   rw [e]
   exact ⟨h1, by omega, by omega⟩
  | false =>
   rw [jd_eq hf rfl rfl rfl]
   refine ⟨rfl, ?_, ?_⟩
   ·show (if _ then min ((acc mo ps l (A0 nd) k).ch + 1) 1000000000 else (acc mo ps l (A0 nd) k).ch) ≤ _
    split
    ·exact Int.le_trans (Int.min_le_left _ _) (by omega)
    ·omega
   ·show (if _ then min ((acc mo ps l (A0 nd) k).cg + 1) 1000000000 else (acc mo ps l (A0 nd) k).cg) ≤ _
    split
    ·exact Int.le_trans (Int.min_le_left _ _) (by omega)
    ·omega
theorem acc_stay {mo : Int} {ps l : Rws} {a : Ac} {k : Nat} (h : (acc mo ps l a k).fr = true) : ∀ j, acc mo ps l a (k + j) = acc mo ps l a k
 | 0 => rfl
 | j + 1 => by
  show jd _ _ _ mo (acc mo ps l a (k + j)) = _
  rw [acc_stay h j]
  unfold jd
  rw [if_pos h]
set_option maxHeartbeats 16000000 in
theorem law6 (nd mo : Int) (ps l : Rws) (hb : gb ps) (hl : l.length ≤ 9223372036854775807) : SemF Try.prog 6 [CV nd mo ps 0, .slc 1 4 0 l.length] ⟨2, 2, DL ps l⟩ (fun v _ => IsTrue v) := by
 refine enter tt_ok Try.func6 (nt := 118) (cd := body Try.f6) rfl rfl rfl rfl ?_
 intro _
 refine call_pure [] (hd_ok) rfl rfl rfl ?_ ?_ ?_
 ·and_intros<;>try first|exact trivial|exact rfl
 ·and_intros<;>try first|exact trivial|exact rfl
 intro v hv _
 subst hv
 intro _
 refine call_pure [(0, some 0)] (rfew_ok nd mo ps hb.1) rfl rfl rfl ?_ ?_ ?_
 ·and_intros<;>try first|exact trivial|exact rfl
 ·and_intros<;>try first|exact trivial|exact rfl
 intro v hv _
 obtain ⟨b0, rfl⟩ := hv
 intro _; refine ⟨fun g => ?_, fun g => ?_⟩
 ·intro _
  show true = true
  rfl
 intro _; refine ⟨fun g => ?_, fun g => ?_⟩
 ·intro _
  show true = true
  rfl
 have g40 := of_decide_eq_false (show decide ((l.length : Int) > 40) = false from g)
 intro _
 refine call_new [(0, some 0), (1, some 1)] (course_ok nd mo ps l hb hl) rfl rfl rfl rfl ?_ ?_ ?_
 ·and_intros<;>try first|exact trivial|exact rfl
 ·and_intros<;>try first|exact trivial|exact rfl
 intro v h' hv
 rcases hv with ⟨hC, rfl, rfl⟩ | ⟨hC, e, he, rfl, rfl⟩
 rotate_left
 ·have he : e ≠ 0 := by rcases he with h | h <;> omega
  refine ⟨[], 3, [], .tup [Z5, .nils, .int .i64 e], rfl, rfl, rfl, rfl, rfl, ?_, ?_, ?_⟩
  ·and_intros<;>try first|exact trivial|exact rfl
  ·and_intros<;>try first|exact trivial|exact rfl
  intro _; refine ⟨fun g => ?_, fun g => ?_⟩
  rotate_left
  ·exact absurd (bne_eq_false_iff_eq.1 (show (e != 0) = false from g)) he
  intro _; refine ⟨fun g => ?_, fun g => ?_⟩
  rotate_left
  ·exact absurd g (by decide)
  intro _
  show true = true
  rfl
 refine ⟨[(3, some 2)], 4, [(3, .arr [.int .i64] .grow (.ints (hts ps l l.length)))], .tup [AV_ (acc mo ps l (A0 nd) l.length), .grw 3 l.length, .int .i64 0], rfl, rfl, rfl, rfl, rfl, ?_, ?_, ?_⟩
 ·and_intros<;>try first|exact trivial|exact rfl
 ·and_intros<;>try first|exact trivial|exact rfl
 have hW := hC.1
 have hX := hC.2.2
 have a0 : Aok (A0 nd) := ⟨hW.1, (by decide : Cn_ 0), (by decide : Cn_ 0), (by decide : (-1000000 : Int) ≤ 0), (by decide : (0 : Int) ≤ 1000000)⟩
 intro _; refine ⟨fun g => ?_, fun g => ?_⟩
 ·exact absurd (show ((0 : Int) != 0) = true from g) (by decide)
 intro _; refine ⟨fun g => ?_, fun g => ?_⟩
 ·have g : ((l.length : Int) != (l.length : Int)) = true := g
  simp at g
 have hmo : 0 ≤ mo := hW.2.1.1
 have hmo2 := hW.2.1.2
 intro _
 refine loop2 tt_ok [9, 10, 11, 12] [] 5 (fun k : { k : Nat // k ≤ l.length } => [(9, .int .i64 (acc mo ps l (A0 nd) k.1).ch), (10, .int .i64 (acc mo ps l (A0 nd) k.1).cg), (11, .int .i64 (acc mo ps l (A0 nd) k.1).la), (12, .int .i64 (k.1 : Nat))]) (fun _ => []) (fun k => l.length - k.1) ⟨0, Nat.zero_le _⟩ ?_
 intro _
 refine ⟨⟨th [] 5, rfl, rfl, rfl, rfl, rfl, rfl, ?_, ?_⟩, ?_⟩
 ·and_intros<;>try first|exact trivial|exact rfl
 ·and_intros<;>try first|exact trivial|exact rfl
 intro ⟨k, hk⟩
 have hk : k ≤ l.length := hk
 obtain ⟨f1, f2, f3⟩ := acc_fr (mo := mo) (ps := ps) (l := l) (nd := nd) hmo rfl k
 have hA := acc_aok (mo := mo) (ps := ps) hW a0 k (fun i hi => hX i (by omega))
 intro _; refine ⟨fun g => ?_, fun g => ?_⟩
 rotate_left
 ·have g := of_decide_eq_false (show decide ((k : Int) < (l.length : Int)) = false from g)
  have eN : acc mo ps l (A0 nd) l.length = acc mo ps l (A0 nd) k := by rw [show l.length = k by omega]
  have eD : (acc mo ps l (A0 nd) l.length).nd = nd := (acc_aok (mo := mo) (ps := ps) hW a0 _ hX).2
  have eF := (acc_fr (mo := mo) (ps := ps) (l := l) (nd := nd) hmo rfl l.length).1
  intro _
  show (((acc mo ps l (A0 nd) l.length).nd == nd) && (((acc mo ps l (A0 nd) l.length).ch == (acc mo ps l (A0 nd) k).ch) && (((acc mo ps l (A0 nd) l.length).cg == (acc mo ps l (A0 nd) k).cg) && (((acc mo ps l (A0 nd) l.length).la == (acc mo ps l (A0 nd) k).la) && ((acc mo ps l (A0 nd) l.length).fr == decide ((acc mo ps l (A0 nd) k).cg > mo)))))) = true
  rw [← eN, eD, eF]
  simp
 have gk := of_decide_eq_true (show decide ((k : Int) < (l.length : Int)) = true from g)
 intro _; refine ⟨fun g => ?_, fun g => ?_⟩
 rotate_left
 ·have g := of_decide_eq_false (show decide ((acc mo ps l (A0 nd) k).cg ≤ mo) = false from g)
  have hfr : (acc mo ps l (A0 nd) k).fr = true := by rw [f1]; exact decide_eq_true (by omega)
  have eN : acc mo ps l (A0 nd) l.length = acc mo ps l (A0 nd) k := by have := acc_stay hfr (l.length - k); rwa [show k + (l.length - k) = l.length by omega] at this
  have eD : (acc mo ps l (A0 nd) l.length).nd = nd := (acc_aok (mo := mo) (ps := ps) hW a0 _ hX).2
  have eF := (acc_fr (mo := mo) (ps := ps) (l := l) (nd := nd) hmo rfl l.length).1
  intro _
  show (((acc mo ps l (A0 nd) l.length).nd == nd) && (((acc mo ps l (A0 nd) l.length).ch == (acc mo ps l (A0 nd) k).ch) && (((acc mo ps l (A0 nd) l.length).cg == (acc mo ps l (A0 nd) k).cg) && (((acc mo ps l (A0 nd) l.length).la == (acc mo ps l (A0 nd) k).la) && ((acc mo ps l (A0 nd) l.length).fr == decide ((acc mo ps l (A0 nd) k).cg > mo)))))) = true
  rw [← eN, eD, eF]
  simp
 have gm := of_decide_eq_true (show decide ((acc mo ps l (A0 nd) k).cg ≤ mo) = true from g)
 have hfr : (acc mo ps l (A0 nd) k).fr = false := by rw [f1]; exact decide_eq_false (by omega)
 have z : 0 + ((k : Nat) : Int).toNat = k := by omega
 have z1 : ((k : Nat) : Int).toNat = k := by omega
 have hXk := (hX k (by omega)).1
 have hp := hW.pr (gx l k 1)
 have p1 := hp.1; have p2 := hp.2; have x1 := hXk.ln.1; have x2 := hXk.ln.2
 have c1 := hA.1.2.1.1; have d1 := hA.1.2.2.1.1
 have eC : IntKind.i64.wrap ((acc mo ps l (A0 nd) k).ch + 1) = min ((acc mo ps l (A0 nd) k).ch + 1) 1000000000 := by rw [wrapS _ ⟨by omega, by omega⟩, Int.min_eq_left (by omega)]
 have eG : IntKind.i64.wrap ((acc mo ps l (A0 nd) k).cg + 1) = min ((acc mo ps l (A0 nd) k).cg + 1) 1000000000 := by rw [wrapS _ ⟨by omega, by omega⟩, Int.min_eq_left (by omega)]
 have eD : IntKind.i64.wrap (gx l (0 + ((k : Nat) : Int).toNat) 3 - raw (hts ps l l.length) ((k : Nat) : Int).toNat) = gx l k 3 - pr (vals ps) (gx ps 0 0) (gx l k 1) := by rw [z, z1, raw_hts ps l _ k (by omega)]; exact wrapS _ ⟨by omega, by omega⟩
 have eK : acc mo ps l (A0 nd) (k + 1) = jd (gx l k 2) (gx l k 3) (pr (vals ps) (gx ps 0 0) (gx l k 1)) mo (acc mo ps l (A0 nd) k) := rfl
 intro _; refine ⟨show 0 ≤ (k : Int) ∧ (k : Int) < (l.length : Int) by omega, ?_⟩
 intro _; refine ⟨show 0 + (k : Int).toNat < l.length by omega, ?_⟩
 intro _; refine ⟨fun g => ?_, fun g => ?_⟩
 ·have gk1 : (gx l (0 + ((k : Nat) : Int).toNat) 2 == 1) = true := g
  rw [z] at gk1
  have gk1 : gx l k 2 = 1 := by simpa using gk1
  intro _; refine ⟨show 0 ≤ (k : Int) ∧ (k : Int) < (l.length : Int) by omega, ?_⟩
  intro _; refine ⟨show 0 + (k : Int).toNat < l.length by omega, ?_⟩
  intro _; refine ⟨show 0 ≤ (k : Int) ∧ (k : Int) < (l.length : Int) by omega, ?_⟩
  intro _; refine ⟨show (k : Int).toNat < (hts ps l l.length).length by rw [hts_len]; omega, ?_⟩
  intro _; refine ⟨by kernel_rfl, ?_⟩
  intro _; refine ⟨show 0 ≤ (k : Int) ∧ (k : Int) < (l.length : Int) by omega, ?_⟩
  intro _; refine ⟨show 0 + (k : Int).toNat < l.length by omega, ?_⟩
  intro _; refine ⟨fun g => ?_, fun g => ?_⟩
  ·have g : (gx l (0 + ((k : Nat) : Int).toNat) 2 == 2) = true := g
   rw [z, gk1] at g
   exact absurd g (by decide)
  intro _; refine ⟨fun g => ?_, fun g => ?_⟩
  ·have gz : (IntKind.i64.wrap (gx l (0 + ((k : Nat) : Int).toNat) 3 - raw (hts ps l l.length) ((k : Nat) : Int).toNat) != 0) = true := g
   rw [eD] at gz
   have gz := bne_iff_ne.1 gz
   intro _; refine ⟨show 0 ≤ (k : Int) ∧ (k : Int) < (l.length : Int) by omega, ?_⟩
   intro _; refine ⟨show 0 + (k : Int).toNat < l.length by omega, ?_⟩
   intro _; refine ⟨fun g => ?_, fun g => ?_⟩
   rotate_left
   ·have g : (gx l (0 + ((k : Nat) : Int).toNat) 2 == 1) = false := g
    rw [z, gk1] at g
    exact absurd g (by decide)
   intro _; refine ⟨fun g => ?_, fun g => ?_⟩
   ·have gd : (IntKind.i64.wrap (gx l (0 + ((k : Nat) : Int).toNat) 3 - raw (hts ps l l.length) ((k : Nat) : Int).toNat) != (acc mo ps l (A0 nd) k).la) = true := g
    rw [eD] at gd
    have gd := bne_iff_ne.1 gd
    have eE : acc mo ps l (A0 nd) (k + 1) = ⟨(acc mo ps l (A0 nd) k).nd, IntKind.i64.wrap ((acc mo ps l (A0 nd) k).ch + 1), IntKind.i64.wrap ((acc mo ps l (A0 nd) k).cg + 1), IntKind.i64.wrap (gx l (0 + ((k : Nat) : Int).toNat) 3 - raw (hts ps l l.length) ((k : Nat) : Int).toNat), decide (IntKind.i64.wrap ((acc mo ps l (A0 nd) k).cg + 1) > mo)⟩ := by rw [eK]; exact jd_eq hfr (by rw [if_pos (.inr ⟨gk1, gz⟩), eC]) (by rw [if_pos ⟨gk1, gd⟩, eG]) (by rw [if_pos ⟨gk1, gd⟩, eD])
    refine ⟨⟨k + 1, by omega⟩, by show l.length - (k + 1) < l.length - k; omega, th [] 5, rfl, rfl, rfl, rfl, rfl, rfl, ?_, ?_⟩
    ·and_intros<;>try first|exact trivial|exact rfl
     ·show (acc mo ps l (A0 nd) (k + 1)).ch = _; have e1 := congrArg Ac.ch eE; exact e1
     ·show (acc mo ps l (A0 nd) (k + 1)).cg = _; have e1 := congrArg Ac.cg eE; exact e1
     ·show (acc mo ps l (A0 nd) (k + 1)).la = _; have e1 := congrArg Ac.la eE; exact e1
     ·exact (wrap_nat k (by omega)).symm
    ·and_intros<;>try first|exact trivial|exact rfl
   have gd : (IntKind.i64.wrap (gx l (0 + ((k : Nat) : Int).toNat) 3 - raw (hts ps l l.length) ((k : Nat) : Int).toNat) != (acc mo ps l (A0 nd) k).la) = false := g
   rw [eD] at gd
   have gd := bne_eq_false_iff_eq.1 gd
   have eE : acc mo ps l (A0 nd) (k + 1) = ⟨(acc mo ps l (A0 nd) k).nd, IntKind.i64.wrap ((acc mo ps l (A0 nd) k).ch + 1), (acc mo ps l (A0 nd) k).cg, (acc mo ps l (A0 nd) k).la, decide ((acc mo ps l (A0 nd) k).cg > mo)⟩ := by rw [eK]; exact jd_eq hfr (by rw [if_pos (.inr ⟨gk1, gz⟩), eC]) (by rw [if_neg (fun q => q.2 gd)]) (by rw [if_neg (fun q => q.2 gd)])
   refine ⟨⟨k + 1, by omega⟩, by show l.length - (k + 1) < l.length - k; omega, th [] 5, rfl, rfl, rfl, rfl, rfl, rfl, ?_, ?_⟩
   ·and_intros<;>try first|exact trivial|exact rfl
    ·show (acc mo ps l (A0 nd) (k + 1)).ch = _; have e1 := congrArg Ac.ch eE; exact e1
    ·show (acc mo ps l (A0 nd) (k + 1)).cg = _; have e1 := congrArg Ac.cg eE; exact e1
    ·show (acc mo ps l (A0 nd) (k + 1)).la = _; have e1 := congrArg Ac.la eE; exact e1
    ·exact (wrap_nat k (by omega)).symm
   ·and_intros<;>try first|exact trivial|exact rfl
  have gz : (IntKind.i64.wrap (gx l (0 + ((k : Nat) : Int).toNat) 3 - raw (hts ps l l.length) ((k : Nat) : Int).toNat) != 0) = false := g
  rw [eD] at gz
  have gz := bne_eq_false_iff_eq.1 gz
  intro _; refine ⟨show 0 ≤ (k : Int) ∧ (k : Int) < (l.length : Int) by omega, ?_⟩
  intro _; refine ⟨show 0 + (k : Int).toNat < l.length by omega, ?_⟩
  intro _; refine ⟨fun g => ?_, fun g => ?_⟩
  rotate_left
  ·have g : (gx l (0 + ((k : Nat) : Int).toNat) 2 == 1) = false := g
   rw [z, gk1] at g
   exact absurd g (by decide)
  intro _; refine ⟨fun g => ?_, fun g => ?_⟩
  ·have gd : (IntKind.i64.wrap (gx l (0 + ((k : Nat) : Int).toNat) 3 - raw (hts ps l l.length) ((k : Nat) : Int).toNat) != (acc mo ps l (A0 nd) k).la) = true := g
   rw [eD] at gd
   have gd := bne_iff_ne.1 gd
   have eE : acc mo ps l (A0 nd) (k + 1) = ⟨(acc mo ps l (A0 nd) k).nd, (acc mo ps l (A0 nd) k).ch, IntKind.i64.wrap ((acc mo ps l (A0 nd) k).cg + 1), IntKind.i64.wrap (gx l (0 + ((k : Nat) : Int).toNat) 3 - raw (hts ps l l.length) ((k : Nat) : Int).toNat), decide (IntKind.i64.wrap ((acc mo ps l (A0 nd) k).cg + 1) > mo)⟩ := by rw [eK]; exact jd_eq hfr (by rw [if_neg (fun q => q.elim (fun q => by omega) (fun q => q.2 gz))]) (by rw [if_pos ⟨gk1, gd⟩, eG]) (by rw [if_pos ⟨gk1, gd⟩, eD])
   refine ⟨⟨k + 1, by omega⟩, by show l.length - (k + 1) < l.length - k; omega, th [] 5, rfl, rfl, rfl, rfl, rfl, rfl, ?_, ?_⟩
   ·and_intros<;>try first|exact trivial|exact rfl
    ·show (acc mo ps l (A0 nd) (k + 1)).ch = _; have e1 := congrArg Ac.ch eE; exact e1
    ·show (acc mo ps l (A0 nd) (k + 1)).cg = _; have e1 := congrArg Ac.cg eE; exact e1
    ·show (acc mo ps l (A0 nd) (k + 1)).la = _; have e1 := congrArg Ac.la eE; exact e1
    ·exact (wrap_nat k (by omega)).symm
   ·and_intros<;>try first|exact trivial|exact rfl
  have gd : (IntKind.i64.wrap (gx l (0 + ((k : Nat) : Int).toNat) 3 - raw (hts ps l l.length) ((k : Nat) : Int).toNat) != (acc mo ps l (A0 nd) k).la) = false := g
  rw [eD] at gd
  have gd := bne_eq_false_iff_eq.1 gd
  have eE : acc mo ps l (A0 nd) (k + 1) = ⟨(acc mo ps l (A0 nd) k).nd, (acc mo ps l (A0 nd) k).ch, (acc mo ps l (A0 nd) k).cg, (acc mo ps l (A0 nd) k).la, decide ((acc mo ps l (A0 nd) k).cg > mo)⟩ := by rw [eK]; exact jd_eq hfr (by rw [if_neg (fun q => q.elim (fun q => by omega) (fun q => q.2 gz))]) (by rw [if_neg (fun q => q.2 gd)]) (by rw [if_neg (fun q => q.2 gd)])
  refine ⟨⟨k + 1, by omega⟩, by show l.length - (k + 1) < l.length - k; omega, th [] 5, rfl, rfl, rfl, rfl, rfl, rfl, ?_, ?_⟩
  ·and_intros<;>try first|exact trivial|exact rfl
   ·show (acc mo ps l (A0 nd) (k + 1)).ch = _; have e1 := congrArg Ac.ch eE; exact e1
   ·show (acc mo ps l (A0 nd) (k + 1)).cg = _; have e1 := congrArg Ac.cg eE; exact e1
   ·show (acc mo ps l (A0 nd) (k + 1)).la = _; have e1 := congrArg Ac.la eE; exact e1
   ·exact (wrap_nat k (by omega)).symm
  ·and_intros<;>try first|exact trivial|exact rfl
 have gk1 : (gx l (0 + ((k : Nat) : Int).toNat) 2 == 1) = false := g
 rw [z] at gk1
 have gk1 : gx l k 2 ≠ 1 := by simpa using gk1
 intro _; refine ⟨show 0 ≤ (k : Int) ∧ (k : Int) < (l.length : Int) by omega, ?_⟩
 intro _; refine ⟨show 0 + (k : Int).toNat < l.length by omega, ?_⟩
 intro _; refine ⟨fun g => ?_, fun g => ?_⟩
 ·have gk2 : (gx l (0 + ((k : Nat) : Int).toNat) 2 == 2) = true := g
  rw [z] at gk2
  have gk2 : gx l k 2 = 2 := by simpa using gk2
  intro _; refine ⟨show 0 ≤ (k : Int) ∧ (k : Int) < (l.length : Int) by omega, ?_⟩
  intro _; refine ⟨show 0 + (k : Int).toNat < l.length by omega, ?_⟩
  intro _; refine ⟨fun g => ?_, fun g => ?_⟩
  ·have g : (gx l (0 + ((k : Nat) : Int).toNat) 2 == 1) = true := g
   rw [z, gk2] at g
   exact absurd g (by decide)
  have eE : acc mo ps l (A0 nd) (k + 1) = ⟨(acc mo ps l (A0 nd) k).nd, IntKind.i64.wrap ((acc mo ps l (A0 nd) k).ch + 1), (acc mo ps l (A0 nd) k).cg, (acc mo ps l (A0 nd) k).la, decide ((acc mo ps l (A0 nd) k).cg > mo)⟩ := by rw [eK]; exact jd_eq hfr (by rw [if_pos (.inl gk2), eC]) (by rw [if_neg (fun q => gk1 q.1)]) (by rw [if_neg (fun q => gk1 q.1)])
  refine ⟨⟨k + 1, by omega⟩, by show l.length - (k + 1) < l.length - k; omega, th [] 5, rfl, rfl, rfl, rfl, rfl, rfl, ?_, ?_⟩
  ·and_intros<;>try first|exact trivial|exact rfl
   ·show (acc mo ps l (A0 nd) (k + 1)).ch = _; have e1 := congrArg Ac.ch eE; exact e1
   ·show (acc mo ps l (A0 nd) (k + 1)).cg = _; have e1 := congrArg Ac.cg eE; exact e1
   ·show (acc mo ps l (A0 nd) (k + 1)).la = _; have e1 := congrArg Ac.la eE; exact e1
   ·exact (wrap_nat k (by omega)).symm
  ·and_intros<;>try first|exact trivial|exact rfl
 have gk2 : (gx l (0 + ((k : Nat) : Int).toNat) 2 == 2) = false := g
 rw [z] at gk2
 have gk2 : gx l k 2 ≠ 2 := by simpa using gk2
 intro _; refine ⟨fun g => ?_, fun g => ?_⟩
 ·exact absurd (show ((0 : Int) != 0) = true from g) (by decide)
 intro _; refine ⟨show 0 ≤ (k : Int) ∧ (k : Int) < (l.length : Int) by omega, ?_⟩
 intro _; refine ⟨show 0 + (k : Int).toNat < l.length by omega, ?_⟩
 intro _; refine ⟨fun g => ?_, fun g => ?_⟩
 ·have g : (gx l (0 + ((k : Nat) : Int).toNat) 2 == 1) = true := g
  rw [z] at g
  exact absurd (by simpa using g) gk1
 have eE : acc mo ps l (A0 nd) (k + 1) = ⟨(acc mo ps l (A0 nd) k).nd, (acc mo ps l (A0 nd) k).ch, (acc mo ps l (A0 nd) k).cg, (acc mo ps l (A0 nd) k).la, decide ((acc mo ps l (A0 nd) k).cg > mo)⟩ := by rw [eK]; exact jd_eq hfr (by rw [if_neg (fun q => q.elim gk2 (fun q => gk1 q.1))]) (by rw [if_neg (fun q => gk1 q.1)]) (by rw [if_neg (fun q => gk1 q.1)])
 refine ⟨⟨k + 1, by omega⟩, by show l.length - (k + 1) < l.length - k; omega, th [] 5, rfl, rfl, rfl, rfl, rfl, rfl, ?_, ?_⟩
 ·and_intros<;>try first|exact trivial|exact rfl
  ·show (acc mo ps l (A0 nd) (k + 1)).ch = _; have e1 := congrArg Ac.ch eE; exact e1
  ·show (acc mo ps l (A0 nd) (k + 1)).cg = _; have e1 := congrArg Ac.cg eE; exact e1
  ·show (acc mo ps l (A0 nd) (k + 1)).la = _; have e1 := congrArg Ac.la eE; exact e1
  ·exact (wrap_nat k (by omega)).symm
 ·and_intros<;>try first|exact trivial|exact rfl
theorem agg_cv {n : Nat} {ν : Nu} {vs : List V} {as' : List Go.Vm.AV} (h : Cvs n ν vs as') : Cv n ν (.agg vs) (.agg as') := by
 simp only [Cv]; exact ⟨as', rfl, h⟩
def fieldsSt (P : Program) : Nat → List Field → List TypeId → Bool
 | _, [], [] => true
 | j, f :: fs, u :: us => Nat.beq f.offset j && Nat.beq (P.cellsOf f.type) 1 && Nat.beq f.type u && fieldsSt P (j + 1) fs us
 | _, _, _ => false
theorem fieldsSt_get {P : Program} : ∀ {fs : List Field} {ts : List TypeId} {j0 : Nat}, fieldsSt P j0 fs ts = true → ∀ (j : Nat) (u : TypeId), ts[j]? = some u → ∃ f, fs[j]? = some f ∧ f.offset = j0 + j ∧ P.cellsOf f.type = 1 ∧ f.type = u
 | [], [], _, _ => fun j u e => by simp at e
 | [], _ :: _, _, h => by simp [fieldsSt] at h
 | _ :: _, [], _, h => by simp [fieldsSt] at h
 | f :: fs, u :: us, j0, h => by
  simp only [fieldsSt, Bool.and_eq_true] at h
  obtain ⟨⟨⟨h1, h2⟩, h3⟩, h4⟩ := h
  intro j u' e
  cases j with
  | zero =>
   simp at e; subst e
   exact ⟨f, rfl, Nat.eq_of_beq_eq_true h1, Nat.eq_of_beq_eq_true h2, Nat.eq_of_beq_eq_true h3⟩
  | succ j =>
   simp at e
   obtain ⟨f', e1, e2, e3⟩ := fieldsSt_get h4 j u' e
   exact ⟨f', by simpa using e1, by rw [e2]; omega, e3⟩
theorem open_st {H : Type} {enc : TypeId × Value → H} {P : Program} {w : World} {base : Nat} {spare : Nat → Bool} {held : Bool} {r : Reach} {t : TypeId} {fs : Array Field} {ts : List TypeId} {v : Value} {d : DataW H} {p : List MemPlace} (ht : P.underlying t = some (.struct fs)) (hts : P.cellTypes P.depth t = some ts) (hC : P.cellsOf t = ts.length) (hf : fieldsSt P 0 fs.toList ts = true)
  (hval : Value.okWide P w r base t v) (h : DataW.Trod enc P w 0 spare held t v d p) :
  ∃ cs : Array Value, v = .agg cs ∧ cs.size = ts.length ∧ ∀ (j : Nat) (u : TypeId), ts[j]? = some u → ∃ x d' p' fuel, cs[j]? = some x ∧ Cell.okWide P w r base u x ∧ DataW.trod enc P w 0 spare held fuel u [x] = some (d', p') := by
 unfold Value.okWide at hval
 rw [ht] at hval
 obtain ⟨cs, rfl, hs, ts', ht', _, hk⟩ := hval
 rw [hts] at ht'
 simp only [Option.some.injEq] at ht'
 subst ht'
 obtain ⟨fuel, h⟩ := h
 obtain ⟨xs, n, _, _, hl, hxl, hf'⟩ := DataW.trod_struct ht h
 refine ⟨cs, rfl, by rw [hs, hC], fun j u hu => ?_⟩
 obtain ⟨f, e1, e2, e3, rfl⟩ := fieldsSt_get hf j u hu
 have hj : j < ts.length := (List.getElem?_eq_some_iff.1 hu).1
 have hjc : j < cs.size := by rw [hs, hC]; exact hj
 obtain ⟨u', hu', hok⟩ := hk j cs[j] (by simp [hjc])
 rw [Nat.mod_eq_of_lt hj, hu] at hu'
 cases hu'
 have e4 := hf' j f (by simpa using e1)
 rw [e2, e3, Nat.zero_add] at e4
 have e5 : ((Value.agg cs).cells.toList.drop j).take 1 = [cs[j]] := by
  show (cs.toList.drop j).take 1 = _
  rw [List.drop_eq_getElem_cons (by simpa using hjc)]; simp
 rw [e5] at e4
 have hjf : j < fs.toList.length := (List.getElem?_eq_some_iff.1 e1).1
 have hjx : j < xs.length := by rw [hxl]; simpa using hjf
 rw [List.getElem?_eq_getElem hjx] at e4
 exact ⟨cs[j], xs[j].1, xs[j].2, n, by simp [hjc], hok, e4⟩
theorem walk (w : World) (nd : Int) (w_nd : (Lit.int .i64 nd).wf = true) (mo : Int) (w_mo : (Lit.int .i64 mo).wf = true) (v_ps : Value) (s_ps : Src) (ps : List (List Go.Vm2.D)) (cap_ps : Nat) (hk_ps : s_ps.ks = [.int .i64, .int .i64, .int .i64, .int .i64, .int .i64]) (ha_ps : s_ps.ac = .recs ps) (hs_ps : s_ps.lies w) (hn_ps : s_ps.at_ = none → ps.length = 0) (hc_ps : ps.length ≤ cap_ps) (hv_ps : v_ps = s_ps.val cap_ps) (hm_ps : ps.length ≤ maxLen) (w_ps : ∀ n ∈ ps, rowWf [.int .i64, .int .i64, .int .i64, .int .i64, .int .i64] n) (v_la : Value) (s_la : Src) (la : List (List Go.Vm2.D)) (cap_la : Nat) (hk_la : s_la.ks = [.int .i64, .int .i64, .int .i64, .int .i64]) (ha_la : s_la.ac = .recs la) (hs_la : s_la.lies w) (hn_la : s_la.at_ = none → la.length = 0) (hc_la : la.length ≤ cap_la) (hv_la : v_la = s_la.val cap_la) (hm_la : la.length ≤ maxLen) (w_la : ∀ n ∈ la, rowWf [.int .i64, .int .i64, .int .i64, .int .i64] n) :
  Calls Try.prog 6 #[.agg #[.int .i64 nd, .int .i64 mo, v_ps], v_la] w fun e w' => e = .returned (.bool true) ∧ Below w.heap.size w w' := by
 obtain ⟨at_ps, ks_ps, ac_ps⟩ := s_ps
 simp only [] at hk_ps ha_ps
 subst hk_ps ha_ps
 have h_ps : ps.length ≤ 9223372036854775807 := by unfold maxLen at hm_ps; omega
 obtain ⟨at_la, ks_la, ac_la⟩ := s_la
 simp only [] at hk_la ha_la
 subst hk_la ha_la
 have h_la : la.length ≤ 9223372036854775807 := by unfold maxLen at hm_la; omega
 have b_nd := w_nd
 simp [Lit.wf, IntKind.min, IntKind.max, IntKind.signed, IntKind.bits] at b_nd
 have b_mo := w_mo
 simp [Lit.wf, IntKind.min, IntKind.max, IntKind.signed, IntKind.bits] at b_mo
 exact top_run (by kernel_rfl) (by kernel_rfl) (T := []) (fun f hf w => by
   exact (List.not_mem_nil hf).elim) (l := [⟨at_ps, [.int .i64, .int .i64, .int .i64, .int .i64, .int .i64], .recs ps⟩, ⟨at_la, [.int .i64, .int .i64, .int .i64, .int .i64], .recs la⟩]) (args := [.agg [.int .i64 nd, .int .i64 mo, .slc 0 5 0 ps.length], .slc 1 4 0 la.length]) («as» := [.agg [.int .i64 nd, .int .i64 mo, Src.av 0 cap_ps ⟨at_ps, [.int .i64, .int .i64, .int .i64, .int .i64, .int .i64], .recs ps⟩], Src.av 1 cap_la ⟨at_la, [.int .i64, .int .i64, .int .i64, .int .i64], .recs la⟩]) (cargs := [.agg #[.int .i64 nd, .int .i64 mo, v_ps], v_la]) w
  (fun s h => by
   rcases List.mem_cons.1 h with e | h
   ·subst e; exact hs_ps
   ·rcases List.mem_cons.1 h with e | h
    ·subst e; exact hs_la
    ·exact (List.not_mem_nil h).elim)
  (Cvs.cons (agg_cv (Cvs.cons mk_int (Cvs.cons mk_int (Cvs.cons (src_cv (s := ⟨at_ps, [.int .i64, .int .i64, .int .i64, .int .i64, .int .i64], .recs ps⟩) rfl 5 hc_ps hn_ps) Cvs.nil)))) (Cvs.cons (src_cv (s := ⟨at_la, [.int .i64, .int .i64, .int .i64, .int .i64], .recs la⟩) rfl 4 hc_la hn_la) Cvs.nil))
  (by simp only [Go.Vm.convs, Go.Vm.conv]; rw [src_conv (j := 0) (s := ⟨at_ps, [.int .i64, .int .i64, .int .i64, .int .i64, .int .i64], .recs ps⟩) rfl, src_conv (j := 1) (s := ⟨at_la, [.int .i64, .int .i64, .int .i64, .int .i64], .recs la⟩) rfl]; subst hv_ps hv_la; rfl)
  (law6 nd mo ps la (gb_of h_ps w_ps) h_la)
set_option maxRecDepth 100000 in
theorem lifted (os : Os) (started : os.Started) (H : Type) (enc : TypeId × Value → H) :
  ReturnsInHanded {} Try.checked os 6 .any (Rows.contractChargesSpec.pre6 enc Try.prog Try.f6 Rows.contractChargesRow.domain false) (Rows.contractChargesSpec.post enc Try.prog Try.f6 false true false false) := by
 refine returnsInHanded_of_change (C := Try.checked) own started (by kernel_rfl) Try.func6
  (ChangeSpec.witness6 (enc := enc) (C := Try.checked) false ⟨#[], #[.agg #[.int .i64 0, .int .i64 0, .slice none 0 0], .slice none 0 0], []⟩ 8 (by kernel_rfl) (by kernel_rfl) (by kernel_rfl) (by kernel_rfl)) ?_
 intro W base args ds gs before hval0 hW hcnd _
 have hval : ∀ (j : Nat) t v, Try.f6.params[j]? = some t → args[j]? = some v → Value.okWide Try.prog W .any base t v := hval0
 have hW' := hW
 obtain ⟨p, q, hA0, hV, rfl, hfz, hnd⟩ := hW
 have hA : DataW.TrodAll enc Try.prog W 0 (fun _ => true) true Try.f6.params.toList args.toList ds p := hA0
 rw [Try.params6] at hA hval
 obtain ⟨v0, vs0, d0, ds0, p0, q0, hargs, rfl, rfl, h0, r0⟩ := trodAll_cons hA
 obtain ⟨v1, vs1, d1, ds1, p1, q1, rfl, rfl, rfl, h1, r1⟩ := trodAll_cons r0
 obtain ⟨rfl, rfl, rfl⟩ := trodAll_nil r1
 obtain rfl : args = #[v0, v1] := by cases args; simp_all
 obtain ⟨rfl, rfl⟩ := trodVars_none hV
 obtain ⟨cs_c, rfl, hz_c, hs_c⟩ := open_st (ts := [3, 3, 22]) Try.underlying24 (by kernel_rfl) (by kernel_rfl) (by kernel_rfl) (hval 0 24 v0 rfl rfl) h0
 have hlt0 : ∀ x ∈ p0, x.block < W.heap.size := fun x hx => by simpa using hW'.lt x (by simp [hx])
 obtain ⟨x_nd, d_nd, p_nd, fu_nd, hx_nd, hk0_nd, ht_nd⟩ := hs_c 0 3 rfl
 have hkk_nd : Value.okWide Try.prog W .any base 3 x_nd := by unfold Value.okWide; rw [Try.underlying3]; exact hk0_nd
 obtain ⟨x_mo, d_mo, p_mo, fu_mo, hx_mo, hk0_mo, ht_mo⟩ := hs_c 1 3 rfl
 have hkk_mo : Value.okWide Try.prog W .any base 3 x_mo := by unfold Value.okWide; rw [Try.underlying3]; exact hk0_mo
 obtain ⟨x_ps, d_ps, p_ps, fu_ps, hx_ps, hk0_ps, ht_ps⟩ := hs_c 2 22 rfl
 have hkk_ps : Value.okWide Try.prog W .any base 22 x_ps := by unfold Value.okWide; rw [Try.underlying22]; exact hk0_ps
 have hcs_c : cs_c = #[x_nd, x_mo, x_ps] := by
  refine Array.ext (by rw [hz_c]; rfl) fun i h1 h2 => ?_
  have hi : i < 3 := by simpa using h2
  rcases i with _ | _ | _ | i
  ·have := hx_nd; rw [Array.getElem?_eq_getElem h1] at this; exact Option.some.inj this
  ·have := hx_mo; rw [Array.getElem?_eq_getElem h1] at this; exact Option.some.inj this
  ·have := hx_ps; rw [Array.getElem?_eq_getElem h1] at this; exact Option.some.inj this
  ·omega
 subst hcs_c
 obtain ⟨nd, hq_nd, _, w_nd⟩ := DataW.trod_int Try.underlying3 ht_nd
 simp only [List.cons.injEq, and_true] at hq_nd
 subst hq_nd
 obtain ⟨mo, hq_mo, _, w_mo⟩ := DataW.trod_int Try.underlying3 ht_mo
 simp only [List.cons.injEq, and_true] at hq_mo
 subst hq_mo
 have htt_ps : DataW.Trod enc Try.prog W 0 (fun _ => true) true 22 x_ps d_ps p_ps := by obtain ⟨ao, len, cap, rfl⟩ := okWide_slice Try.underlying22 hkk_ps; exact ⟨fu_ps, ht_ps⟩
 obtain ⟨s_ps, ps, cap_ps, hk_ps, ha_ps, hs_ps, hn_ps, hc_ps, hv_ps, hm_ps, w_ps⟩ := Go.Vm2.open_recsN (dp := 3) (ks := [.int .i64, .int .i64, .int .i64, .int .i64, .int .i64]) Try.underlying22 (by kernel_rfl) (by simp) (by kernel_rfl) hkk_ps htt_ps
 obtain ⟨s_la, la, cap_la, hk_la, ha_la, hs_la, hn_la, hc_la, hv_la, hm_la, w_la⟩ := Go.Vm2.open_recs (ks := [.int .i64, .int .i64, .int .i64, .int .i64]) Try.underlying27 Try.underlying36 (by kernel_rfl) (by simp) (by kernel_rfl) (hval 1 27 v1 rfl rfl) h1
 have hlt1 : ∀ x ∈ p1, x.block < W.heap.size := fun x hx => by simpa using hW'.lt x (by simp [hx])
 clear hA0 hval0
 refine (walk W nd w_nd mo w_mo x_ps s_ps ps cap_ps hk_ps ha_ps hs_ps hn_ps hc_ps hv_ps hm_ps w_ps v1 s_la la cap_la hk_la ha_la hs_la hn_la hc_la hv_la hm_la w_la).mono fun e W' ⟨he, hg⟩ => ?_
 subst he
 exact ⟨_, rfl, _, _, _, [], _, [], hW', trodAll_cons_mk (shut_bool Try.underlying4 _) trodAll_mk0, (trodAll_cons_mk (Below.trod laidOut (by kernel_rfl) (of_decide_eq_true (by kernel_rfl)) h0 hg hlt0) (trodAll_cons_mk (Below.trod laidOut (by kernel_rfl) (of_decide_eq_true (by kernel_rfl)) h1 hg hlt1) trodAll_mk0)), rfl, hg.frame _, fun h => by cases h⟩
theorem over : Rows.contractChargesRow.holds Try.pinned (OpenSpec.ofChange Rows.contractChargesSpec) :=
 OpenClaim.holds_of_wide 6 Try.f6 rfl rfl rfl rfl rfl rfl rfl ⟨rfl, rfl, rfl, rfl, rfl⟩ rfl rfl rfl rfl rfl (by kernel_rfl) Try.func6 (by kernel_rfl)
  (of_decide_eq_true (by kernel_rfl)) (by unfold Func.isWrapper; first | (rw [if_pos (by decide +kernel)]; kernel_rfl) | (rw [if_neg (by decide +kernel)]; exact ⟨rfl, rfl⟩))
  (fun os started H enc _ => lifted os started H enc)
theorem proved : Rows.ContractChargesSaid :=
 over
#print axioms proved
end Go.Proofs.Ytbcjncoajilijaa.contractCharges
