/-
  CurveMoves: whatever the arguments, the law returns true, and its arguments read as before. No conditions.
-/
import Derived.Test.YtjcfmocpmjeddaaRows
import Derived.Test.YtjcfmocpmjeddaaVwOpen2
import Derived.Test.YtjcfmocpmjeddaaVwRules7
import Derived.WalkKit
import Derived.ProofKit
import Derived.OpenShut
import Derived.Carry
import Derived.Test.YtjcfmocpmjeddaaSrtA
import Derived.Test.YtjcfmocpmjeddaaSrtB
import Derived.Test.YtjcfmocpmjeddaaCrvA
namespace Go.Proofs.Ytjcfmocpmjeddaa.curveMoves
open Go.ChangeShapes Go.WideShapes Go.ChangeAt Go.RowKit
open Go.Vm (Facts Val Sound)
open Go.Vm2
set_option linter.unusedVariables false
set_option linter.unusedSectionVars false

open Go.Proofs.Ytjcfmocpmjeddaa.crv
theorem own : ownKnob Try.prog.godebug = none := by kernel_rfl
theorem laidOut : laidOutB Try.prog = true := by kernel_rfl
set_option maxRecDepth 100000
def sh (d : Int) (r : List Go.Vm2.D) : List Go.Vm2.D := [.n ((r.getD 0 (.n 0)).int + d), .n ((r.getD 1 (.n 0)).int + d), .n (r.getD 2 (.n 0)).int, .n (r.getD 3 (.n 0)).int, .n (r.getD 4 (.n 0)).int]
def mq (ps : Rws) (d : Int) : Nat → Rws
  | 0 => []
  | k + 1 => mq ps d k ++ [[.n (gx ps k 0 + d), .n (gx ps k 1 + d), .n (gx ps k 2), .n (gx ps k 3), .n (gx ps k 4)]]
theorem mq_len (ps : Rws) (d : Int) : ∀ k, (mq ps d k).length = k
  | 0 => rfl
  | k + 1 => by simp [mq, mq_len ps d k]
theorem mq_map (ps : Rws) (d : Int) : ∀ k, k ≤ ps.length → mq ps d k = (ps.take k).map (sh d)
  | 0, _ => by simp [mq]
  | k + 1, hk => by
    have e : ps.getD k [] = ps[k] := by rw [List.getD_eq_getElem?_getD, List.getElem?_eq_getElem (by omega)]; rfl
    rw [List.take_succ_eq_append_getElem (by omega), List.map_append, ← mq_map ps d k (by omega)]
    simp only [mq, gx, e, List.map_cons, List.map_nil]
    rfl
theorem spl_move {f d : Int} {l : List Int} {ps : Rws} (h : Spl f l ps) : Spl (f + d) l (ps.map (sh d)) := by
  induction h with
  | nil f => exact Spl.nil _
  | @cons f l n a b d' ps h hs ih =>
    have e : sh d (pt f (f + (n : Nat)) a b d') = pt (f + d) (f + d + (n : Nat)) a b d' := by
      unfold sh pt
      show [D.n (f + d), D.n (f + (n : Nat) + d), D.n a, D.n b, D.n d'] = _
      rw [show f + ((n : Nat) : Int) + d = f + d + (n : Nat) by omega]
    rw [List.map_cons, e]
    refine Spl.cons h ?_
    rw [show f + d + ((n : Nat) : Int) = f + (n : Nat) + d by omega]
    exact ih
set_option maxHeartbeats 8000000 in
theorem law8 (x y : Int) (l : List Int) (hx : 0 ≤ x ∧ x ≤ 65535) (hy : 0 ≤ y ∧ y ≤ 65535) (hl : l.length ≤ 9223372036854775807) : SemF Try.prog 8 [.int .u16 x, .int .u16 y, .slc 0 1 0 l.length] ⟨1, 1, [(0, .arr [.int .i64] .ro (.ints l))]⟩ (fun v _ => IsTrue v) := by
  refine enter tt_ok Try.func8 (nt := 93) (cd := body Try.f8) rfl rfl rfl rfl ?_
  intro _
  refine call_pure [] (hd_ok) rfl rfl rfl ?_ ?_ ?_
  · (repeat' first | exact trivial | exact rfl | refine And.intro ?_ ?_)
  · (repeat' first | exact trivial | exact rfl | refine And.intro ?_ ?_)
  intro v hv _
  subst hv
  intro _; refine ⟨fun g => ?_, fun g => ?_⟩
  · intro _
    show true = true
    rfl
  have g1 := of_decide_eq_false (show decide ((l.length : Int) > 40) = false from g)
  intro _; refine ⟨fun g => ?_, fun g => ?_⟩
  · intro _
    show true = true
    rfl
  have g2 := beq_eq_false_iff_ne.1 (show ((l.length : Int) == 0) = false from g)
  obtain ⟨f, hf⟩ : ∃ f, f = (IntKind.i64.wrap x).tmod 2000 := ⟨_, rfl⟩
  obtain ⟨d, hd⟩ : ∃ d, d = (IntKind.i64.wrap y).tmod 1900 := ⟨_, rfl⟩
  have f1 : 0 ≤ f ∧ f < 2000 := by
    rw [hf, wrapS x ⟨by omega, by omega⟩]
    exact ⟨Int.tmod_nonneg 2000 hx.1, Int.tmod_lt_of_pos x (by omega)⟩
  have d1 : 0 ≤ d ∧ d < 1900 := by
    rw [hd, wrapS y ⟨by omega, by omega⟩]
    exact ⟨Int.tmod_nonneg 1900 hy.1, Int.tmod_lt_of_pos y (by omega)⟩
  have ew : IntKind.i64.wrap ((IntKind.i64.wrap x).tmod 2000 + (IntKind.i64.wrap y).tmod 1900) = f + d := by rw [← hf, ← hd]; exact wrapS _ ⟨by omega, by omega⟩
  have ee : ∀ (l : List Int), l.length ≤ 40 → (if 4000 < l.length then (2 : Int) else 1) = 1 := fun l h => if_neg (by omega)
  intro _; refine ⟨by decide, ?_⟩
  intro _; refine ⟨by decide, ?_⟩
  intro _
  refine call_new [(0, some 0)] (make_ok f l hl (by omega)) rfl rfl rfl rfl ?_ ?_ ?_
  · (repeat' first | exact trivial | exact rfl | refine And.intro ?_ ?_)
  · (repeat' first | exact trivial | exact rfl | refine And.intro ?_ ?_)
    all_goals exact hf
  intro v h' hv
  rcases hv with ⟨hM, ps, hS, rfl, rfl⟩ | ⟨hM, hv, rfl⟩
  rotate_left
  · rw [ee l (by omega)] at hv
    subst hv
    refine ⟨[], 1, [], .tup [.nils, .int .i64 1], rfl, rfl, rfl, rfl, rfl, ?_, ?_, ?_⟩
    · (repeat' first | exact trivial | exact rfl | refine And.intro ?_ ?_)
    · (repeat' first | exact trivial | exact rfl | refine And.intro ?_ ?_)
    intro _
    refine call_new [(0, some 0)] (make_ok (f + d) l hl (by omega)) rfl rfl rfl rfl ?_ ?_ ?_
    · (repeat' first | exact trivial | exact rfl | refine And.intro ?_ ?_)
    · (repeat' first | exact trivial | exact rfl | refine And.intro ?_ ?_)
      all_goals exact ew.symm
    intro v h' hv
    rcases hv with ⟨hM2, _⟩ | ⟨hM2, hv, rfl⟩
    · exact absurd ⟨hM2.1, f1.1, by omega⟩ hM
    rw [ee l (by omega)] at hv
    subst hv
    refine ⟨[], 1, [], .tup [.nils, .int .i64 1], rfl, rfl, rfl, rfl, rfl, ?_, ?_, ?_⟩
    · (repeat' first | exact trivial | exact rfl | refine And.intro ?_ ?_)
    · (repeat' first | exact trivial | exact rfl | refine And.intro ?_ ?_)
    intro _; refine ⟨fun g => ?_, fun g => ?_⟩
    rotate_left
    · exact absurd (show ((1 : Int) != 0) = false from g) (by decide)
    intro _
    show ((1 : Int) == 1) = true
    rfl
  refine ⟨[(1, some 1)], 2, [(1, .arr PK .grow (.recs ps))], .tup [.grw 1 ps.length, .int .i64 0], rfl, rfl, rfl, rfl, rfl, ?_, ?_, ?_⟩
  · (repeat' first | exact trivial | exact rfl | refine And.intro ?_ ?_)
  · (repeat' first | exact trivial | exact rfl | refine And.intro ?_ ?_)
  intro _
  refine call_new [(0, some 0)] (make_ok (f + d) l hl (by omega)) rfl rfl rfl rfl ?_ ?_ ?_
  · (repeat' first | exact trivial | exact rfl | refine And.intro ?_ ?_)
  · (repeat' first | exact trivial | exact rfl | refine And.intro ?_ ?_)
    all_goals exact ew.symm
  intro v h' hv
  rcases hv with ⟨_, qs, hS2, rfl, rfl⟩ | ⟨hM2, _⟩
  rotate_left
  · exact absurd ⟨hM.1, by omega, by omega⟩ hM2
  refine ⟨[(2, some 1)], 3, [(2, .arr PK .grow (.recs qs))], .tup [.grw 2 qs.length, .int .i64 0], rfl, rfl, rfl, rfl, rfl, ?_, ?_, ?_⟩
  · (repeat' first | exact trivial | exact rfl | refine And.intro ?_ ?_)
  · (repeat' first | exact trivial | exact rfl | refine And.intro ?_ ?_)
  have eq : qs = ps.map (sh d) := hS2.uniq hM.1.2.2 (by omega) (spl_move hS)
  have pl := hS.len
  have hO := hS.ok hM.1.2.2 (by omega) (by omega)
  intro _; refine ⟨fun g => ?_, fun g => ?_⟩
  · exact absurd (show ((0 : Int) != 0) = true from g) (by decide)
  intro _; refine ⟨fun g => ?_, fun g => ?_⟩
  · exact absurd (show ((0 : Int) != 0) = true from g) (by decide)
  intro _
  refine loop2 tt_ok [14, 15] [3] 4 (fun k : { k : Nat // k ≤ ps.length } => [(14, .grw 3 k.1), (15, .int .i64 (k.1 : Nat))]) (fun k => [(3, .arr PK .grow (.recs (mq ps d k.1)))]) (fun k => ps.length - k.1) ⟨0, Nat.zero_le _⟩ ?_
  intro _
  refine ⟨⟨th [(3, none)] 4, rfl, rfl, rfl, rfl, rfl, rfl, ?_, ?_⟩, ?_⟩
  · (repeat' first | exact trivial | exact rfl | refine And.intro ?_ ?_)
  · (repeat' first | exact trivial | exact rfl | refine And.intro ?_ ?_)
  intro ⟨k, hk⟩
  have hk : k ≤ ps.length := hk
  have ml := mq_len ps d k
  intro _; refine ⟨fun g => ?_, fun g => ?_⟩
  rotate_left
  · have g := of_decide_eq_false (show decide ((k : Int) < (ps.length : Int)) = false from g)
    have e : k = ps.length := by omega
    subst e
    intro _
    refine call_pure [(0, some 2), (1, some 3)] (same_ok qs (mq ps d ps.length) qs.length ps.length (Nat.le_refl _) (by omega) (by rw [eq]; simp; omega) (by omega)) rfl rfl rfl ?_ ?_ ?_
    · (repeat' first | exact trivial | exact rfl | refine And.intro ?_ ?_)
    · (repeat' first | exact trivial | exact rfl | refine And.intro ?_ ?_)
    intro v hv _
    subst hv
    intro _
    show decide (NI (qs.take qs.length) = NI ((mq ps d ps.length).take ps.length)) = true
    rw [decide_eq_true]
    rw [List.take_length, List.take_of_length_le (by omega), mq_map ps d _ (Nat.le_refl _), List.take_length, eq]
  have g := of_decide_eq_true (show decide ((k : Int) < (ps.length : Int)) = true from g)
  have z : ((k : Nat) : Int).toNat = k := by omega
  have ho := hO k (by omega)
  have h0 : 0 ≤ gx ps 0 0 := by rw [hS.first (by omega)]; omega
  have au := at_up h0 hO k hk
  have o1 := ho.1; have o2 := ho.2.1; have o3 := ho.2.2.1
  have e0 : IntKind.i64.wrap (gx ps ((k : Nat) : Int).toNat 0 + (IntKind.i64.wrap y).tmod 1900) = gx ps k 0 + d := by rw [z, ← hd]; exact wrapS _ ⟨by omega, by omega⟩
  have e1 : IntKind.i64.wrap (gx ps ((k : Nat) : Int).toNat 1 + (IntKind.i64.wrap y).tmod 1900) = gx ps k 1 + d := by rw [z, ← hd]; exact wrapS _ ⟨by omega, by omega⟩
  intro _; refine ⟨show 0 ≤ (k : Int) ∧ (k : Int) < (ps.length : Int) by omega, ?_⟩
  intro _; refine ⟨show (k : Int).toNat < ps.length by omega, ?_⟩
  intro _; refine ⟨show 0 ≤ (k : Int) ∧ (k : Int) < (ps.length : Int) by omega, ?_⟩
  intro _; refine ⟨show (k : Int).toNat < ps.length by omega, ?_⟩
  intro _; refine ⟨show 0 ≤ (k : Int) ∧ (k : Int) < (ps.length : Int) by omega, ?_⟩
  intro _; refine ⟨show (k : Int).toNat < ps.length by omega, ?_⟩
  intro _; refine Or.inr ?_
  intro _; refine ⟨rfl, ?_⟩
  intro _; refine ⟨fun g3 => by simp at g3, fun _ => ?_⟩
  refine ⟨⟨ml.symm, show k + 1 ≤ 4611686018427387904 by omega, show (k + 1) * 40 ≤ 140737488355328 by omega⟩, ?_⟩
  intro _; refine ⟨by kernel_rfl, ?_⟩
  refine ⟨⟨k + 1, by omega⟩, by show ps.length - (k + 1) < ps.length - k; omega, th [(3, some 5)] 4, rfl, rfl, rfl, rfl, rfl, rfl, ?_, ?_⟩
  · (repeat' first | exact trivial | exact rfl | refine And.intro ?_ ?_)
    exact (wrap_nat k (by omega)).symm
  · (repeat' first | exact trivial | exact rfl | refine And.intro ?_ ?_)
    show mq ps d k ++ [[.n (gx ps k 0 + d), .n (gx ps k 1 + d), .n (gx ps k 2), .n (gx ps k 3), .n (gx ps k 4)]] = mq ps d k ++ [[.n (IntKind.i64.wrap (gx ps ((k : Nat) : Int).toNat 0 + (IntKind.i64.wrap y).tmod 1900)), .n (IntKind.i64.wrap (gx ps ((k : Nat) : Int).toNat 1 + (IntKind.i64.wrap y).tmod 1900)), .n (gx ps ((k : Nat) : Int).toNat 2), .n (gx ps ((k : Nat) : Int).toNat 3), .n (gx ps ((k : Nat) : Int).toNat 4)]]
    rw [e0, e1, z]

theorem walk (w : World) (x : Int) (w_x : (Lit.int .u16 x).wf = true) (y : Int) (w_y : (Lit.int .u16 y).wf = true) (v_l : Value) (s_l : Src) (l : List Int) (cap_l : Nat) (hk_l : s_l.ks = [.int .i64]) (ha_l : s_l.ac = .ints l) (hs_l : s_l.lies w) (hn_l : s_l.at_ = none → l.length = 0) (hc_l : l.length ≤ cap_l) (hv_l : v_l = s_l.val cap_l) (hm_l : l.length ≤ maxLen) (w_l : ∀ n ∈ l, (Lit.int .i64 n).wf = true) :
    Calls Try.prog 8 #[.int .u16 x, .int .u16 y, v_l] w fun e w' => e = .returned (.bool true) ∧ Below w.heap.size w w' := by
  obtain ⟨at_l, ks_l, ac_l⟩ := s_l
  simp only [] at hk_l ha_l
  subst hk_l ha_l
  have h_l : l.length ≤ 9223372036854775807 := by unfold maxLen at hm_l; omega
  have b_x := w_x
  simp [Lit.wf, IntKind.min, IntKind.max, IntKind.signed, IntKind.bits] at b_x
  have b_y := w_y
  simp [Lit.wf, IntKind.min, IntKind.max, IntKind.signed, IntKind.bits] at b_y
  exact top_run (by kernel_rfl) (by kernel_rfl) (T := []) (fun f hf w => by
      exact (List.not_mem_nil hf).elim) (l := [⟨at_l, [.int .i64], .ints l⟩]) (args := [.int .u16 x, .int .u16 y, .slc 0 1 0 l.length]) («as» := [.int .u16 x, .int .u16 y, Src.av 0 cap_l ⟨at_l, [.int .i64], .ints l⟩]) (cargs := [.int .u16 x, .int .u16 y, v_l]) w
    (fun s h => by
      rcases List.mem_cons.1 h with e | h
      · subst e; exact hs_l
      · exact (List.not_mem_nil h).elim)
    (Cvs.cons mk_int (Cvs.cons mk_int (Cvs.cons (src_cv (s := ⟨at_l, [.int .i64], .ints l⟩) rfl 1 hc_l hn_l) Cvs.nil)))
    (by simp only [Go.Vm.convs, Go.Vm.conv]; rw [src_conv (j := 0) (s := ⟨at_l, [.int .i64], .ints l⟩) rfl, hv_l])
    (law8 x y l (by omega) (by omega) h_l)

set_option maxRecDepth 100000 in
theorem lifted (os : Os) (started : os.Started) (H : Type) (enc : TypeId × Value → H) :
    ReturnsInHanded {} Try.checked os 8 .any (Rows.curveMovesSpec.pre6 enc Try.prog Try.f8 Rows.curveMovesRow.domain false) (Rows.curveMovesSpec.post enc Try.prog Try.f8 false true false false) := by
  refine returnsInHanded_of_change (C := Try.checked) own started (by kernel_rfl) Try.func8
    (ChangeSpec.witness6 (enc := enc) (C := Try.checked) false ⟨#[], #[.int .u16 0, .int .u16 0, .slice none 0 0], []⟩ 8 (by kernel_rfl) (by kernel_rfl) (by kernel_rfl) (by kernel_rfl)) ?_
  intro W base args ds gs before hval0 hW hcnd _
  have hval : ∀ (j : Nat) t v, Try.f8.params[j]? = some t → args[j]? = some v → Value.okWide Try.prog W .any base t v := hval0
  have hW' := hW
  obtain ⟨p, q, hA0, hV, rfl, hfz, hnd⟩ := hW
  have hA : DataW.TrodAll enc Try.prog W 0 (fun _ => true) true Try.f8.params.toList args.toList ds p := hA0
  rw [Try.params8] at hA hval
  obtain ⟨v0, vs0, d0, ds0, p0, q0, hargs, rfl, rfl, h0, r0⟩ := trodAll_cons hA
  obtain ⟨v1, vs1, d1, ds1, p1, q1, rfl, rfl, rfl, h1, r1⟩ := trodAll_cons r0
  obtain ⟨v2, vs2, d2, ds2, p2, q2, rfl, rfl, rfl, h2, r2⟩ := trodAll_cons r1
  obtain ⟨rfl, rfl, rfl⟩ := trodAll_nil r2
  obtain rfl : args = #[v0, v1, v2] := by cases args; simp_all
  obtain ⟨rfl, rfl⟩ := trodVars_none hV
  obtain ⟨x, rfl, rfl, rfl, w_x⟩ := open_int Try.underlying45 (hval 0 45 v0 rfl rfl) h0
  obtain ⟨y, rfl, rfl, rfl, w_y⟩ := open_int Try.underlying45 (hval 1 45 v1 rfl rfl) h1
  obtain ⟨s_l, l, cap_l, hk_l, ha_l, hs_l, hn_l, hc_l, hv_l, hm_l, w_l⟩ := Go.Vm2.open_list Try.underlying23 Try.underlying3 (by kernel_rfl) (hval 2 23 v2 rfl rfl) h2
  have hlt2 : ∀ x ∈ p2, x.block < W.heap.size := fun x hx => by simpa using hW'.lt x (by simp [hx])
  clear hA0 hval0
  refine (walk W x w_x y w_y v2 s_l l cap_l hk_l ha_l hs_l hn_l hc_l hv_l hm_l w_l).mono fun e W' ⟨he, hg⟩ => ?_
  subst he
  exact ⟨_, rfl, _, _, _, [], _, [], hW', trodAll_cons_mk (shut_bool Try.underlying4 _) trodAll_mk0, (trodAll_cons_mk (shut_int Try.underlying45 w_x) (trodAll_cons_mk (shut_int Try.underlying45 w_y) (trodAll_cons_mk (Below.trod laidOut (by kernel_rfl) (of_decide_eq_true (by kernel_rfl)) h2 hg hlt2) trodAll_mk0))), rfl, hg.frame _, fun h => by cases h⟩

theorem over : Rows.curveMovesRow.holds Try.pinned (OpenSpec.ofChange Rows.curveMovesSpec) :=
  OpenClaim.holds_of_wide 8 Try.f8 rfl rfl rfl rfl rfl rfl rfl ⟨rfl, rfl, rfl, rfl, rfl⟩ rfl rfl rfl rfl rfl (by kernel_rfl) Try.func8 (by kernel_rfl)
    (of_decide_eq_true (by kernel_rfl)) (by unfold Func.isWrapper; first | (rw [if_pos (by decide +kernel)]; kernel_rfl) | (rw [if_neg (by decide +kernel)]; exact ⟨rfl, rfl⟩))
    (fun os started H enc _ => lifted os started H enc)

/-- the statement -/
theorem proved : Rows.CurveMovesSaid :=
  over
#print axioms proved
end Go.Proofs.Ytjcfmocpmjeddaa.curveMoves
