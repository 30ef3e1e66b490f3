/-
 CurveMatchesReference: whatever the arguments, the law returns true, and its arguments read as before. No conditions.
-/
import Derived.Test.YtjcfmocpmjeddaaRows
import Derived.Test.YtjcfmocpmjeddaaVwOpen2
import Derived.Test.YtjcfmocpmjeddaaVwRules7
import Derived.WalkKit
import Derived.ProofKit
import Derived.OpenShut
import Derived.Carry
import Derived.Test.YtjcfmocpmjeddaaSrtA
import Derived.Test.YtjcfmocpmjeddaaSrtB
import Derived.Test.YtjcfmocpmjeddaaCrvA
import Derived.Test.YtjcfmocpmjeddaaCrvB
namespace Go.Proofs.Ytjcfmocpmjeddaa.curveMatchesReference
open Go.ChangeShapes Go.WideShapes Go.ChangeAt Go.RowKit
open Go.Vm (Facts Val Sound)
open Go.Vm2
set_option linter.unusedVariables false
set_option linter.unusedSectionVars false
open Go.Proofs.Ytjcfmocpmjeddaa.crv
theorem own : ownKnob Try.prog.godebug = none := by kernel_rfl
theorem laidOut : laidOutB Try.prog = true := by kernel_rfl
set_option maxRecDepth 100000
def MkU (f : Int) (l : List Int) (ps : Rws) (e : Int) : Prop := (Mok f l ∧ Spl f l ps ∧ e = 0) ∨ (¬ Mok f l ∧ ps = [] ∧ e = if 4000 < l.length then 2 else 1)
theorem MkU.uniq {f : Int} {l : List Int} {ps qs : Rws} {e d : Int} (h : MkU f l ps e) (k : MkU f l qs d) : ps = qs ∧ e = d := by
 rcases h with ⟨h1, h2, rfl⟩ | ⟨h1, rfl, rfl⟩ <;> rcases k with ⟨k1, k2, rfl⟩ | ⟨k1, rfl, rfl⟩
 ·exact ⟨h2.uniq h1.1.2.2 h1.1.2.1 k2, rfl⟩
 ·exact absurd h1 k1
 ·exact absurd k1 h1
 ·exact ⟨rfl, rfl⟩
def VlU (ps : Rws) (q : List Int) (e : Int) : Prop := (Vd ps ∧ q = vals ps ∧ e = 0) ∨ (¬ Vd ps ∧ q = [] ∧ e = 1)
theorem VlU.uniq {ps : Rws} {q r : List Int} {e d : Int} (h : VlU ps q e) (k : VlU ps r d) : q = r ∧ e = d := by
 rcases h with ⟨h1, rfl, rfl⟩ | ⟨h1, rfl, rfl⟩ <;> rcases k with ⟨k1, rfl, rfl⟩ | ⟨k1, rfl, rfl⟩
 ·exact ⟨rfl, rfl⟩
 ·exact absurd h1 k1
 ·exact absurd k1 h1
 ·exact ⟨rfl, rfl⟩
def SmU (a b : Rws) (ps : Rws) (e : Int) : Prop := (JOk a b ∧ AllC (zz (· + ·) a b) ∧ Spl (gx a 0 0) (zz (· + ·) a b) ps ∧ e = 0) ∨ (JOk a b ∧ ¬ AllC (zz (· + ·) a b) ∧ ps = [] ∧ e = 3) ∨ (¬ JOk a b ∧ ps = [] ∧ e = 1)
theorem zz_len {op : Int → Int → Int} {a b : Rws} (h : JOk a b) : (zz op a b).length ≤ 4000 := by
 have := h.1.len.2.1
 show (zk op (vals a) (vals b) (vals a).length).length ≤ 4000
 rw [zk_len]; exact this
theorem SmU.uniq {a b : Rws} {ps qs : Rws} {e d : Int} (h : SmU a b ps e) (k : SmU a b qs d) : ps = qs ∧ e = d := by
 rcases h with ⟨h1, h2, h3, rfl⟩ | ⟨h1, h2, rfl, rfl⟩ | ⟨h1, rfl, rfl⟩ <;> rcases k with ⟨k1, k2, k3, rfl⟩ | ⟨k1, k2, rfl, rfl⟩ | ⟨k1, rfl, rfl⟩
 ·exact ⟨h3.uniq h2 (zz_len h1) k3, rfl⟩
 ·exact absurd h2 k2
 ·exact absurd h1 k1
 ·exact absurd k2 h2
 ·exact ⟨rfl, rfl⟩
 ·exact absurd h1 k1
 ·exact absurd k1 h1
 ·exact absurd k1 h1
 ·exact ⟨rfl, rfl⟩
def MxU (a b : Rws) (ps : Rws) (e : Int) : Prop := (JOk a b ∧ Spl (gx a 0 0) (zz max a b) ps ∧ e = 0) ∨ (¬ JOk a b ∧ ps = [] ∧ e = 1)
theorem MxU.uniq {a b : Rws} {ps qs : Rws} {e d : Int} (h : MxU a b ps e) (k : MxU a b qs d) : ps = qs ∧ e = d := by
 rcases h with ⟨h1, h2, rfl⟩ | ⟨h1, rfl, rfl⟩ <;> rcases k with ⟨k1, k2, rfl⟩ | ⟨k1, rfl, rfl⟩
 ·exact ⟨h2.uniq h1.mxC (zz_len h1) k2, rfl⟩
 ·exact absurd h1 k1
 ·exact absurd k1 h1
 ·exact ⟨rfl, rfl⟩
theorem MkU.len {f : Int} {l : List Int} {ps : Rws} {e : Int} (h : MkU f l ps e) : ps.length ≤ 9223372036854775807 := by
 rcases h with ⟨h1, h2, _⟩ | ⟨_, rfl, _⟩
 ·have := h2.len; have := h1.1.2.1; omega
 ·decide
theorem VlU.len {ps : Rws} {q : List Int} {e : Int} (h : VlU ps q e) : q.length ≤ 9223372036854775807 := by
 rcases h with ⟨h1, rfl, _⟩ | ⟨_, rfl, _⟩
 ·have := h1.len.2.1; omega
 ·decide
theorem SmU.len {a b : Rws} {ps : Rws} {e : Int} (h : SmU a b ps e) : ps.length ≤ 9223372036854775807 := by
 rcases h with ⟨h1, _, h2, _⟩ | ⟨_, _, rfl, _⟩ | ⟨_, rfl, _⟩
 ·have := h2.len; have : (zz (· + ·) a b).length ≤ 4000 := zz_len h1; omega
 ·decide
 ·decide
theorem MxU.len {a b : Rws} {ps : Rws} {e : Int} (h : MxU a b ps e) : ps.length ≤ 9223372036854775807 := by
 rcases h with ⟨h1, h2, _⟩ | ⟨_, rfl, _⟩
 ·have := h2.len; have : (zz max a b).length ≤ 4000 := zz_len h1; omega
 ·decide
theorem gx_wf3 {ps : Rws} (hw : ∀ r ∈ ps, Go.Vm2.rowWf PK r) (i : Nat) (hi : i < ps.length) : -9223372036854775808 ≤ gx ps i 0 ∧ gx ps i 0 ≤ 9223372036854775807 := by
 have hm : ps[i] ∈ ps := List.getElem_mem hi
 obtain ⟨n, e, hn⟩ := (hw _ hm).2 0 (.int .i64) rfl
 have e2 : gx ps i 0 = n := by
  unfold gx
  rw [show ps.getD i [] = ps[i] by rw [List.getD_eq_getElem?_getD, List.getElem?_eq_getElem hi]; rfl, e]; rfl
 rw [e2]
 simp [Lit.wf, IntKind.min, IntKind.max, IntKind.signed, IntKind.bits] at hn
 exact hn
theorem gb_of3 {ps : Rws} (hl : ps.length ≤ 9223372036854775807) (hw : ∀ r ∈ ps, Go.Vm2.rowWf PK r) : gb ps := by
 refine ⟨hl, ?_⟩
 by_cases h : 0 < ps.length
 ·exact gx_wf3 hw 0 h
 ·have : ps = [] := List.eq_nil_of_length_eq_zero (by omega)
  subst this
  exact ⟨by decide, by decide⟩
set_option maxHeartbeats 16000000 in
theorem law3 (a b : Rws) (f : Int) (l : List Int) (n : Int) (ha : a.length ≤ 9223372036854775807) (wa : ∀ r ∈ a, Go.Vm2.rowWf PK r) (hb : b.length ≤ 9223372036854775807) (wb : ∀ r ∈ b, Go.Vm2.rowWf PK r) (hf : -9223372036854775808 ≤ f ∧ f ≤ 9223372036854775807) (hl : l.length ≤ 9223372036854775807) :
  SemF Try.prog 3 [.slc 0 5 0 a.length, .slc 1 5 0 b.length, .int .i64 f, .slc 2 1 0 l.length, .int .i64 n] ⟨3, 3, [(0, .arr PK .ro (.recs a)), (1, .arr PK .ro (.recs b)), (2, .arr [.int .i64] .ro (.ints l))]⟩ (fun v _ => IsTrue v) := by
 have hA := gb_of3 ha wa
 have hB := gb_of3 hb wb
 refine enter tt_ok Try.func3 (nt := 160) (cd := body Try.f3) rfl rfl rfl rfl ?_
 intro _
 refine call_pure [] (hd_ok) rfl rfl rfl ?_ ?_ ?_
 ·and_intros<;>try first|exact trivial|exact rfl
 ·and_intros<;>try first|exact trivial|exact rfl
 intro v hv _
 subst hv
 intro _
 refine call_pure [(0, some 0)] (few_ok a ha) rfl rfl rfl ?_ ?_ ?_
 ·and_intros<;>try first|exact trivial|exact rfl
 ·and_intros<;>try first|exact trivial|exact rfl
 intro v hv _
 obtain ⟨b0, rfl⟩ := hv
 intro _; refine ⟨fun g => ?_, fun g => ?_⟩
 ·intro _
  show true = true
  rfl
 intro _
 refine call_pure [(0, some 1)] (few_ok b hb) rfl rfl rfl ?_ ?_ ?_
 ·and_intros<;>try first|exact trivial|exact rfl
 ·and_intros<;>try first|exact trivial|exact rfl
 intro v hv _
 obtain ⟨b1, rfl⟩ := hv
 intro _; refine ⟨fun g => ?_, fun g => ?_⟩
 ·intro _
  show true = true
  rfl
 intro _; refine ⟨fun g => ?_, fun g => ?_⟩
 intro _; refine ⟨fun g => ?_, fun g => ?_⟩
 ·intro _
  show true = true
  rfl
 all_goals
  intro _
  refine call_list (A := (fun ps => .recs ps)) PK 1 (MkU f l) [(0, some 2)] (make_ok f l hl hf) rfl rfl rfl rfl rfl ?_ ?_ ?_ rfl ?_ ?_ ?_
  ·and_intros<;>try first|exact trivial|exact rfl
  ·and_intros<;>try first|exact trivial|exact rfl
  ·and_intros<;>try first|exact trivial|exact rfl
  ·intro ps; and_intros<;>try first|exact trivial|exact rfl
  ·intro v h' hv
   rcases hv with ⟨h1, ps, hS, rfl, rfl⟩ | ⟨h1, rfl, rfl⟩
   ·exact ⟨ps, 0, .inl ⟨h1, hS, rfl⟩, .inl ⟨rfl, rfl⟩⟩
   ·exact ⟨[], _, .inr ⟨h1, rfl, rfl⟩, .inr ⟨rfl, rfl, rfl⟩⟩
  intro l1 e1 hl1
  intro _
  refine call_list (A := (fun ps => .recs ps)) PK 1 (MkU f l) [(0, some 2)] (rmake_ok f l hl hf) rfl rfl rfl rfl rfl ?_ ?_ ?_ rfl ?_ ?_ ?_
  ·and_intros<;>try first|exact trivial|exact rfl
  ·and_intros<;>try first|exact trivial|exact rfl
  ·and_intros<;>try first|exact trivial|exact rfl
  ·intro ps; and_intros<;>try first|exact trivial|exact rfl
  ·intro v h' hv
   rcases hv with ⟨h1, ps, hS, rfl, rfl⟩ | ⟨h1, rfl, rfl⟩
   ·exact ⟨ps, 0, .inl ⟨h1, hS, rfl⟩, .inl ⟨rfl, rfl⟩⟩
   ·exact ⟨[], _, .inr ⟨h1, rfl, rfl⟩, .inr ⟨rfl, rfl, rfl⟩⟩
  intro m1 d1 hm1
  obtain ⟨r1, r2⟩ := hl1.uniq hm1
  subst r1 r2
  intro _
  refine call_pure [(0, some 0)] (toT (valid2_ok a hA)) rfl rfl rfl ?_ ?_ ?_
  ·and_intros<;>try first|exact trivial|exact rfl
  ·and_intros<;>try first|exact trivial|exact rfl
  intro v hv _
  obtain ⟨v1, hv1, rfl⟩ := hv
  intro _
  refine call_pure [(0, some 0)] (rvalidp_ok a hA) rfl rfl rfl ?_ ?_ ?_
  ·and_intros<;>try first|exact trivial|exact rfl
  ·and_intros<;>try first|exact trivial|exact rfl
  intro v hv _
  obtain ⟨v2, hv2, rfl⟩ := hv
  have ev : v1 = v2 := by
   have := hv1.trans hv2.symm
   cases v1 <;> cases v2 <;> simp_all
  subst ev
  intro _; refine ⟨fun g => ?_, fun g => ?_⟩
  rotate_left
  ·exact absurd (show (v1 == v1) = false from g) (by simp)
  intro _
  refine call_pure [(0, some 3), (1, some 4)] (same_ok l1 l1 l1.length l1.length (Nat.le_refl _) (Nat.le_refl _) hl1.len hl1.len) rfl rfl rfl ?_ ?_ ?_
  ·and_intros<;>try first|exact trivial|exact rfl
  ·and_intros<;>try first|exact trivial|exact rfl
  intro v hv _
  subst hv
  intro _; refine ⟨fun g => ?_, fun g => ?_⟩
  rotate_left
  ·exact absurd (show (decide (NI (l1.take l1.length) = NI (l1.take l1.length))) = false from g) (by simp)
  intro _
  refine call_pure [(0, some 0)] (atf_ok a n hA) rfl rfl rfl ?_ ?_ ?_
  ·and_intros<;>try first|exact trivial|exact rfl
  ·and_intros<;>try first|exact trivial|exact rfl
  intro v hv _
  have hv1 := hv
  obtain ⟨x, e, rfl⟩ := hv.form
  intro _
  refine call_pure [(0, some 0)] (ratf_ok a n hA) rfl rfl rfl ?_ ?_ ?_
  ·and_intros<;>try first|exact trivial|exact rfl
  ·and_intros<;>try first|exact trivial|exact rfl
  intro v hv _
  have hv := hv.uniq hv1
  subst hv
  intro _; refine ⟨fun g => ?_, fun g => ?_⟩
  rotate_left
  ·exact absurd (show (e1 == e1) = false from g) (by simp)
  intro _; refine ⟨fun g => ?_, fun g => ?_⟩
  rotate_left
  ·exact absurd (show (x == x) = false from g) (by simp)
  intro _
  refine call_list (A := (fun ps => .ints ps)) [.int .i64] 1 (VlU a) [(0, some 0)] (values_ok a hA) rfl rfl rfl rfl rfl ?_ ?_ ?_ rfl ?_ ?_ ?_
  ·and_intros<;>try first|exact trivial|exact rfl
  ·and_intros<;>try first|exact trivial|exact rfl
  ·and_intros<;>try first|exact trivial|exact rfl
  ·intro ps; and_intros<;>try first|exact trivial|exact rfl
  ·intro v h' hv
   rcases hv with ⟨h1, rfl, rfl⟩ | ⟨h1, rfl, rfl⟩
   ·exact ⟨vals a, 0, .inl ⟨h1, rfl, rfl⟩, .inl ⟨rfl, rfl⟩⟩
   ·exact ⟨[], _, .inr ⟨h1, rfl, rfl⟩, .inr ⟨rfl, rfl, rfl⟩⟩
  intro p e2 hp
  intro _
  refine call_list (A := (fun ps => .ints ps)) [.int .i64] 1 (VlU a) [(0, some 0)] (rvalues_ok a hA) rfl rfl rfl rfl rfl ?_ ?_ ?_ rfl ?_ ?_ ?_
  ·and_intros<;>try first|exact trivial|exact rfl
  ·and_intros<;>try first|exact trivial|exact rfl
  ·and_intros<;>try first|exact trivial|exact rfl
  ·intro ps; and_intros<;>try first|exact trivial|exact rfl
  ·intro v h' hv
   rcases hv with ⟨h1, rfl, rfl⟩ | ⟨h1, rfl, rfl⟩
   ·exact ⟨vals a, 0, .inl ⟨h1, rfl, rfl⟩, .inl ⟨rfl, rfl⟩⟩
   ·exact ⟨[], _, .inr ⟨h1, rfl, rfl⟩, .inr ⟨rfl, rfl, rfl⟩⟩
  intro q d2 hq
  obtain ⟨r1, r2⟩ := hp.uniq hq
  subst r1 r2
  intro _; refine ⟨fun g => ?_, fun g => ?_⟩
  rotate_left
  ·exact absurd (show (e == e) = false from g) (by simp)
  intro _
  refine call_pure [(0, some 5), (1, some 6)] (sameInts_ok p p hp.len hp.len) rfl rfl rfl ?_ ?_ ?_
  ·and_intros<;>try first|exact trivial|exact rfl
  ·and_intros<;>try first|exact trivial|exact rfl
  intro v hv _
  subst hv
  intro _; refine ⟨fun g => ?_, fun g => ?_⟩
  rotate_left
  ·exact absurd (show (decide (p = p)) = false from g) (by simp)
  intro _
  refine call_list (A := (fun ps => .recs ps)) PK 2 (SmU a b) [(0, some 0), (1, some 1)] (sum_ok a b hA hB) rfl rfl rfl rfl rfl ?_ ?_ ?_ rfl ?_ ?_ ?_
  ·and_intros<;>try first|exact trivial|exact rfl
  ·and_intros<;>try first|exact trivial|exact rfl
  ·and_intros<;>try first|exact trivial|exact rfl
  ·intro ps; and_intros<;>try first|exact trivial|exact rfl
  ·intro v h' hv
   rcases hv with ⟨h1, h2, ps, hS, rfl, rfl⟩ | ⟨h1, h2, rfl, rfl⟩ | ⟨h1, rfl, rfl⟩
   ·exact ⟨ps, 0, .inl ⟨h1, h2, hS, rfl⟩, .inl ⟨rfl, rfl⟩⟩
   ·exact ⟨[], _, .inr (.inl ⟨h1, h2, rfl, rfl⟩), .inr ⟨rfl, rfl, rfl⟩⟩
   ·exact ⟨[], _, .inr (.inr ⟨h1, rfl, rfl⟩), .inr ⟨rfl, rfl, rfl⟩⟩
  intro l2 e3 hl2
  intro _
  refine call_list (A := (fun ps => .recs ps)) PK 2 (SmU a b) [(0, some 0), (1, some 1)] (rsum_ok a b hA hB) rfl rfl rfl rfl rfl ?_ ?_ ?_ rfl ?_ ?_ ?_
  ·and_intros<;>try first|exact trivial|exact rfl
  ·and_intros<;>try first|exact trivial|exact rfl
  ·and_intros<;>try first|exact trivial|exact rfl
  ·intro ps; and_intros<;>try first|exact trivial|exact rfl
  ·intro v h' hv
   rcases hv with ⟨h1, h2, ps, hS, rfl, rfl⟩ | ⟨h1, h2, rfl, rfl⟩ | ⟨h1, rfl, rfl⟩
   ·exact ⟨ps, 0, .inl ⟨h1, h2, hS, rfl⟩, .inl ⟨rfl, rfl⟩⟩
   ·exact ⟨[], _, .inr (.inl ⟨h1, h2, rfl, rfl⟩), .inr ⟨rfl, rfl, rfl⟩⟩
   ·exact ⟨[], _, .inr (.inr ⟨h1, rfl, rfl⟩), .inr ⟨rfl, rfl, rfl⟩⟩
  intro m2 d3 hm2
  obtain ⟨r1, r2⟩ := hl2.uniq hm2
  subst r1 r2
  intro _; refine ⟨fun g => ?_, fun g => ?_⟩
  rotate_left
  ·exact absurd (show (e2 == e2) = false from g) (by simp)
  intro _
  refine call_pure [(0, some 7), (1, some 8)] (same_ok l2 l2 l2.length l2.length (Nat.le_refl _) (Nat.le_refl _) hl2.len hl2.len) rfl rfl rfl ?_ ?_ ?_
  ·and_intros<;>try first|exact trivial|exact rfl
  ·and_intros<;>try first|exact trivial|exact rfl
  intro v hv _
  subst hv
  intro _; refine ⟨fun g => ?_, fun g => ?_⟩
  rotate_left
  ·exact absurd (show (decide (NI (l2.take l2.length) = NI (l2.take l2.length))) = false from g) (by simp)
  intro _
  refine call_list (A := (fun ps => .recs ps)) PK 2 (MxU a b) [(0, some 0), (1, some 1)] (max_ok a b hA hB) rfl rfl rfl rfl rfl ?_ ?_ ?_ rfl ?_ ?_ ?_
  ·and_intros<;>try first|exact trivial|exact rfl
  ·and_intros<;>try first|exact trivial|exact rfl
  ·and_intros<;>try first|exact trivial|exact rfl
  ·intro ps; and_intros<;>try first|exact trivial|exact rfl
  ·intro v h' hv
   rcases hv with ⟨h1, ps, hS, rfl, rfl⟩ | ⟨h1, rfl, rfl⟩
   ·exact ⟨ps, 0, .inl ⟨h1, hS, rfl⟩, .inl ⟨rfl, rfl⟩⟩
   ·exact ⟨[], _, .inr ⟨h1, rfl, rfl⟩, .inr ⟨rfl, rfl, rfl⟩⟩
  intro l3 e4 hl3
  intro _
  refine call_list (A := (fun ps => .recs ps)) PK 2 (MxU a b) [(0, some 0), (1, some 1)] (rmax_ok a b hA hB) rfl rfl rfl rfl rfl ?_ ?_ ?_ rfl ?_ ?_ ?_
  ·and_intros<;>try first|exact trivial|exact rfl
  ·and_intros<;>try first|exact trivial|exact rfl
  ·and_intros<;>try first|exact trivial|exact rfl
  ·intro ps; and_intros<;>try first|exact trivial|exact rfl
  ·intro v h' hv
   rcases hv with ⟨h1, ps, hS, rfl, rfl⟩ | ⟨h1, rfl, rfl⟩
   ·exact ⟨ps, 0, .inl ⟨h1, hS, rfl⟩, .inl ⟨rfl, rfl⟩⟩
   ·exact ⟨[], _, .inr ⟨h1, rfl, rfl⟩, .inr ⟨rfl, rfl, rfl⟩⟩
  intro m3 d4 hm3
  obtain ⟨r1, r2⟩ := hl3.uniq hm3
  subst r1 r2
  intro _; refine ⟨fun g => ?_, fun g => ?_⟩
  rotate_left
  ·exact absurd (show (e3 == e3) = false from g) (by simp)
  intro _
  refine call_pure [(0, some 9), (1, some 10)] (same_ok l3 l3 l3.length l3.length (Nat.le_refl _) (Nat.le_refl _) hl3.len hl3.len) rfl rfl rfl ?_ ?_ ?_
  ·and_intros<;>try first|exact trivial|exact rfl
  ·and_intros<;>try first|exact trivial|exact rfl
  intro v hv _
  subst hv
  intro _; refine ⟨fun g => ?_, fun g => ?_⟩
  rotate_left
  ·exact absurd (show (decide (NI (l3.take l3.length) = NI (l3.take l3.length))) = false from g) (by simp)
  intro _
  show (e4 == e4) = true
  simp
theorem walk (w : World) (v_a : Value) (s_a : Src) (a : List (List Go.Vm2.D)) (cap_a : Nat) (hk_a : s_a.ks = [.int .i64, .int .i64, .int .i64, .int .i64, .int .i64]) (ha_a : s_a.ac = .recs a) (hs_a : s_a.lies w) (hn_a : s_a.at_ = none → a.length = 0) (hc_a : a.length ≤ cap_a) (hv_a : v_a = s_a.val cap_a) (hm_a : a.length ≤ maxLen) (w_a : ∀ n ∈ a, rowWf [.int .i64, .int .i64, .int .i64, .int .i64, .int .i64] n) (v_b : Value) (s_b : Src) (b : List (List Go.Vm2.D)) (cap_b : Nat) (hk_b : s_b.ks = [.int .i64, .int .i64, .int .i64, .int .i64, .int .i64]) (ha_b : s_b.ac = .recs b) (hs_b : s_b.lies w) (hn_b : s_b.at_ = none → b.length = 0) (hc_b : b.length ≤ cap_b) (hv_b : v_b = s_b.val cap_b) (hm_b : b.length ≤ maxLen) (w_b : ∀ n ∈ b, rowWf [.int .i64, .int .i64, .int .i64, .int .i64, .int .i64] n) (f : Int) (w_f : (Lit.int .i64 f).wf = true) (v_l : Value) (s_l : Src) (l : List Int) (cap_l : Nat) (hk_l : s_l.ks = [.int .i64]) (ha_l : s_l.ac = .ints l) (hs_l : s_l.lies w) (hn_l : s_l.at_ = none → l.length = 0) (hc_l : l.length ≤ cap_l) (hv_l : v_l = s_l.val cap_l) (hm_l : l.length ≤ maxLen) (w_l : ∀ n ∈ l, (Lit.int .i64 n).wf = true) (nn : Int) (w_nn : (Lit.int .i64 nn).wf = true) :
  Calls Try.prog 3 #[v_a, v_b, .int .i64 f, v_l, .int .i64 nn] w fun e w' => e = .returned (.bool true) ∧ Below w.heap.size w w' := by
 obtain ⟨at_a, ks_a, ac_a⟩ := s_a
 simp only [] at hk_a ha_a
 subst hk_a ha_a
 have h_a : a.length ≤ 9223372036854775807 := by unfold maxLen at hm_a; omega
 obtain ⟨at_b, ks_b, ac_b⟩ := s_b
 simp only [] at hk_b ha_b
 subst hk_b ha_b
 have h_b : b.length ≤ 9223372036854775807 := by unfold maxLen at hm_b; omega
 obtain ⟨at_l, ks_l, ac_l⟩ := s_l
 simp only [] at hk_l ha_l
 subst hk_l ha_l
 have h_l : l.length ≤ 9223372036854775807 := by unfold maxLen at hm_l; omega
 have b_f := w_f
 simp [Lit.wf, IntKind.min, IntKind.max, IntKind.signed, IntKind.bits] at b_f
 have b_nn := w_nn
 simp [Lit.wf, IntKind.min, IntKind.max, IntKind.signed, IntKind.bits] at b_nn
 exact top_run (by kernel_rfl) (by kernel_rfl) (T := []) (fun f hf w => by
   exact (List.not_mem_nil hf).elim) (l := [⟨at_a, [.int .i64, .int .i64, .int .i64, .int .i64, .int .i64], .recs a⟩, ⟨at_b, [.int .i64, .int .i64, .int .i64, .int .i64, .int .i64], .recs b⟩, ⟨at_l, [.int .i64], .ints l⟩]) (args := [.slc 0 5 0 a.length, .slc 1 5 0 b.length, .int .i64 f, .slc 2 1 0 l.length, .int .i64 nn]) («as» := [Src.av 0 cap_a ⟨at_a, [.int .i64, .int .i64, .int .i64, .int .i64, .int .i64], .recs a⟩, Src.av 1 cap_b ⟨at_b, [.int .i64, .int .i64, .int .i64, .int .i64, .int .i64], .recs b⟩, .int .i64 f, Src.av 2 cap_l ⟨at_l, [.int .i64], .ints l⟩, .int .i64 nn]) (cargs := [v_a, v_b, .int .i64 f, v_l, .int .i64 nn]) w
  (fun s h => by
   rcases List.mem_cons.1 h with e | h
   ·subst e; exact hs_a
   ·rcases List.mem_cons.1 h with e | h
    ·subst e; exact hs_b
    ·rcases List.mem_cons.1 h with e | h
     ·subst e; exact hs_l
     ·exact (List.not_mem_nil h).elim)
  (Cvs.cons (src_cv (s := ⟨at_a, [.int .i64, .int .i64, .int .i64, .int .i64, .int .i64], .recs a⟩) rfl 5 hc_a hn_a) (Cvs.cons (src_cv (s := ⟨at_b, [.int .i64, .int .i64, .int .i64, .int .i64, .int .i64], .recs b⟩) rfl 5 hc_b hn_b) (Cvs.cons mk_int (Cvs.cons (src_cv (s := ⟨at_l, [.int .i64], .ints l⟩) rfl 1 hc_l hn_l) (Cvs.cons mk_int Cvs.nil)))))
  (by simp only [Go.Vm.convs, Go.Vm.conv]; rw [src_conv (j := 0) (s := ⟨at_a, [.int .i64, .int .i64, .int .i64, .int .i64, .int .i64], .recs a⟩) rfl, src_conv (j := 1) (s := ⟨at_b, [.int .i64, .int .i64, .int .i64, .int .i64, .int .i64], .recs b⟩) rfl, src_conv (j := 2) (s := ⟨at_l, [.int .i64], .ints l⟩) rfl, hv_a, hv_b, hv_l])
  (law3 a b f l nn h_a w_a h_b w_b b_f h_l)
set_option maxRecDepth 100000 in
theorem lifted (os : Os) (started : os.Started) (H : Type) (enc : TypeId × Value → H) :
  ReturnsInHanded {} Try.checked os 3 .any (Rows.curveMatchesReferenceSpec.pre6 enc Try.prog Try.f3 Rows.curveMatchesReferenceRow.domain false) (Rows.curveMatchesReferenceSpec.post enc Try.prog Try.f3 false true false false) := by
 refine returnsInHanded_of_change (C := Try.checked) own started (by kernel_rfl) Try.func3
  (ChangeSpec.witness6 (enc := enc) (C := Try.checked) false ⟨#[], #[.slice none 0 0, .slice none 0 0, .int .i64 0, .slice none 0 0, .int .i64 0], []⟩ 8 (by kernel_rfl) (by kernel_rfl) (by kernel_rfl) (by kernel_rfl)) ?_
 intro W base args ds gs before hval0 hW hcnd _
 have hval : ∀ (j : Nat) t v, Try.f3.params[j]? = some t → args[j]? = some v → Value.okWide Try.prog W .any base t v := hval0
 have hW' := hW
 obtain ⟨p, q, hA0, hV, rfl, hfz, hnd⟩ := hW
 have hA : DataW.TrodAll enc Try.prog W 0 (fun _ => true) true Try.f3.params.toList args.toList ds p := hA0
 rw [Try.params3] at hA hval
 obtain ⟨v0, vs0, d0, ds0, p0, q0, hargs, rfl, rfl, h0, r0⟩ := trodAll_cons hA
 obtain ⟨v1, vs1, d1, ds1, p1, q1, rfl, rfl, rfl, h1, r1⟩ := trodAll_cons r0
 obtain ⟨v2, vs2, d2, ds2, p2, q2, rfl, rfl, rfl, h2, r2⟩ := trodAll_cons r1
 obtain ⟨v3, vs3, d3, ds3, p3, q3, rfl, rfl, rfl, h3, r3⟩ := trodAll_cons r2
 obtain ⟨v4, vs4, d4, ds4, p4, q4, rfl, rfl, rfl, h4, r4⟩ := trodAll_cons r3
 obtain ⟨rfl, rfl, rfl⟩ := trodAll_nil r4
 obtain rfl : args = #[v0, v1, v2, v3, v4] := by cases args; simp_all
 obtain ⟨rfl, rfl⟩ := trodVars_none hV
 obtain ⟨s_a, a, cap_a, hk_a, ha_a, hs_a, hn_a, hc_a, hv_a, hm_a, w_a⟩ := Go.Vm2.open_recsN (dp := 3) (ks := [.int .i64, .int .i64, .int .i64, .int .i64, .int .i64]) Try.underlying22 (by kernel_rfl) (by simp) (by kernel_rfl) (hval 0 22 v0 rfl rfl) h0
 have hlt0 : ∀ x ∈ p0, x.block < W.heap.size := fun x hx => by simpa using hW'.lt x (by simp [hx])
 obtain ⟨s_b, b, cap_b, hk_b, ha_b, hs_b, hn_b, hc_b, hv_b, hm_b, w_b⟩ := Go.Vm2.open_recsN (dp := 3) (ks := [.int .i64, .int .i64, .int .i64, .int .i64, .int .i64]) Try.underlying22 (by kernel_rfl) (by simp) (by kernel_rfl) (hval 1 22 v1 rfl rfl) h1
 have hlt1 : ∀ x ∈ p1, x.block < W.heap.size := fun x hx => by simpa using hW'.lt x (by simp [hx])
 obtain ⟨f, rfl, rfl, rfl, w_f⟩ := open_int Try.underlying3 (hval 2 3 v2 rfl rfl) h2
 obtain ⟨s_l, l, cap_l, hk_l, ha_l, hs_l, hn_l, hc_l, hv_l, hm_l, w_l⟩ := Go.Vm2.open_list Try.underlying23 Try.underlying3 (by kernel_rfl) (hval 3 23 v3 rfl rfl) h3
 have hlt3 : ∀ x ∈ p3, x.block < W.heap.size := fun x hx => by simpa using hW'.lt x (by simp [hx])
 obtain ⟨nn, rfl, rfl, rfl, w_nn⟩ := open_int Try.underlying3 (hval 4 3 v4 rfl rfl) h4
 clear hA0 hval0
 refine (walk W v0 s_a a cap_a hk_a ha_a hs_a hn_a hc_a hv_a hm_a w_a v1 s_b b cap_b hk_b ha_b hs_b hn_b hc_b hv_b hm_b w_b f w_f v3 s_l l cap_l hk_l ha_l hs_l hn_l hc_l hv_l hm_l w_l nn w_nn).mono fun e W' ⟨he, hg⟩ => ?_
 subst he
 exact ⟨_, rfl, _, _, _, [], _, [], hW', trodAll_cons_mk (shut_bool Try.underlying4 _) trodAll_mk0, (trodAll_cons_mk (Below.trod laidOut (by kernel_rfl) (of_decide_eq_true (by kernel_rfl)) h0 hg hlt0) (trodAll_cons_mk (Below.trod laidOut (by kernel_rfl) (of_decide_eq_true (by kernel_rfl)) h1 hg hlt1) (trodAll_cons_mk (shut_int Try.underlying3 w_f) (trodAll_cons_mk (Below.trod laidOut (by kernel_rfl) (of_decide_eq_true (by kernel_rfl)) h3 hg hlt3) (trodAll_cons_mk (shut_int Try.underlying3 w_nn) trodAll_mk0))))), rfl, hg.frame _, fun h => by cases h⟩
theorem over : Rows.curveMatchesReferenceRow.holds Try.pinned (OpenSpec.ofChange Rows.curveMatchesReferenceSpec) :=
 OpenClaim.holds_of_wide 3 Try.f3 rfl rfl rfl rfl rfl rfl rfl ⟨rfl, rfl, rfl, rfl, rfl⟩ rfl rfl rfl rfl rfl (by kernel_rfl) Try.func3 (by kernel_rfl)
  (of_decide_eq_true (by kernel_rfl)) (by unfold Func.isWrapper; first | (rw [if_pos (by decide +kernel)]; kernel_rfl) | (rw [if_neg (by decide +kernel)]; exact ⟨rfl, rfl⟩))
  (fun os started H enc _ => lifted os started H enc)
theorem proved : Rows.CurveMatchesReferenceSaid :=
 over
#print axioms proved
end Go.Proofs.Ytjcfmocpmjeddaa.curveMatchesReference
