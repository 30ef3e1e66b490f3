/-
  CurveBegins: whatever the arguments, the law returns true, and its arguments read as before. No conditions.
-/
import Derived.Test.YtjcfmocpmjeddaaRows
import Derived.Test.YtjcfmocpmjeddaaVwOpen2
import Derived.Test.YtjcfmocpmjeddaaVwRules7
import Derived.WalkKit
import Derived.ProofKit
import Derived.OpenShut
import Derived.Carry
import Derived.Test.YtjcfmocpmjeddaaSrtA
import Derived.Test.YtjcfmocpmjeddaaSrtB
import Derived.Test.YtjcfmocpmjeddaaCrvA
namespace Go.Proofs.Ytjcfmocpmjeddaa.curveBegins
open Go.ChangeShapes Go.WideShapes Go.ChangeAt Go.RowKit
open Go.Vm (Facts Val Sound)
open Go.Vm2
set_option linter.unusedVariables false
set_option linter.unusedSectionVars false

open Go.Proofs.Ytjcfmocpmjeddaa.crv
theorem own : ownKnob Try.prog.godebug = none := by kernel_rfl
theorem laidOut : laidOutB Try.prog = true := by kernel_rfl
set_option maxRecDepth 100000
/-- the parts of the first values -/
theorem spl_begins {f : Int} {l : List Int} {ps qs : Rws} {k : Nat} (h : Spl f l ps) (hC : AllC l) (hl : l.length ≤ 4000) (hk : 1 ≤ k ∧ k ≤ l.length) (h' : Spl f (l.take k) qs) :
    ∃ m, qs.length = m + 1 ∧ m < ps.length ∧ ps.take m = qs.take m ∧ gx ps m 0 = gx qs m 0 ∧ gx qs m 1 ≤ gx ps m 1 := by
  induction h generalizing qs k with
  | nil f => have := hk.2; simp at this; omega
  | @cons f l n a b d ps h hs ih =>
    rcases h'.inv with ⟨e, _⟩ | ⟨n', a', b', d', qs', h2, hs2, rfl⟩
    · have := congrArg List.length e; rw [tk_len hk.2] at this; simp at this; omega
    · have hn := h.1.1
      have hn2 := h.1.2
      have kl : (l.take k).length = k := by simp; omega
      have n2 := h2.1.1
      have n3 : n' ≤ k := by have := h2.1.2; omega
      by_cases c : n < k
      · -- the same part
        have h3 : Lg (l.take k) n a b d := by
          refine ⟨⟨hn, by omega⟩, ?_, fun _ => ?_⟩
          · rw [List.take_take, Nat.min_eq_left (by omega)]; exact h.2.1
          · rw [List.take_take, Nat.min_eq_left (by omega)]; exact h.2.2 (by omega)
        obtain ⟨rfl, rfl, rfl, rfl⟩ := h3.uniq (allC_take hC hk.2) (by omega) h2
        rw [List.drop_take] at hs2
        obtain ⟨m, m1, m2, m3, m4, m5⟩ := ih (k := k - n) (allC_drop hC) (by simp; omega) (by simp; omega) hs2
        refine ⟨m + 1, by simp [m1], by simp; omega, by simp [m3], ?_, ?_⟩
        · rw [gx_succ, gx_succ]; exact m4
        · rw [gx_succ, gx_succ]; exact m5
      · have e : qs' = [] := by
          have fx : Fx ((l.take k).take k) := by
            rw [List.take_take, Nat.min_self]
            have := (h.2.1.fx (allC_take hC hn2) (by rw [tk_len hn2]; exact hn) (by rw [tk_len hn2]; omega)).less (m := k) (by omega) hn2
            exact this
          have : n' = k := by
            by_cases c2 : n' < k
            · exact absurd (fx.less (m := n' + 1) (by omega) (by omega)) (h2.2.2 (by omega))
            · omega
          subst this
          rcases hs2.inv with ⟨_, e⟩ | ⟨n4, _, _, _, _, h4, _, _⟩
          · exact e
          · have := h4.1.1; have := h4.1.2; simp at this; omega
        subst e
        refine ⟨0, rfl, by simp, by simp, rfl, ?_⟩
        show f + (n' : Nat) ≤ f + (n : Nat)
        omega
set_option maxHeartbeats 8000000 in
theorem law9 (f : Int) (l : List Int) (w : Int) (hf : -9223372036854775808 ≤ f ∧ f ≤ 9223372036854775807) (hw : 0 ≤ w ∧ w ≤ 255) (hl : l.length ≤ 9223372036854775807) : SemF Try.prog 9 [.int .i64 f, .slc 0 1 0 l.length, .int .u8 w] ⟨1, 1, [(0, .arr [.int .i64] .ro (.ints l))]⟩ (fun v _ => IsTrue v) := by
  refine enter tt_ok Try.func9 (nt := 107) (cd := body Try.f9) rfl rfl rfl rfl ?_
  intro _
  refine call_pure [] (hd_ok) rfl rfl rfl ?_ ?_ ?_
  · (repeat' first | exact trivial | exact rfl | refine And.intro ?_ ?_)
  · (repeat' first | exact trivial | exact rfl | refine And.intro ?_ ?_)
  intro v hv _
  subst hv
  intro _; refine ⟨fun g => ?_, fun g => ?_⟩
  · intro _
    show true = true
    rfl
  have g1 := of_decide_eq_false (show decide ((l.length : Int) > 40) = false from g)
  intro _; refine ⟨fun g => ?_, fun g => ?_⟩
  · intro _
    show true = true
    rfl
  have g2 := beq_eq_false_iff_ne.1 (show ((l.length : Int) == 0) = false from g)
  have ee : ∀ (l : List Int), l.length ≤ 40 → (if 4000 < l.length then (2 : Int) else 1) = 1 := fun l h => if_neg (by omega)
  obtain ⟨k, hk⟩ : ∃ k : Nat, k = (1 + w.tmod (l.length : Int)).toNat := ⟨_, rfl⟩
  have t1 := Int.tmod_lt_of_pos w (b := (l.length : Int)) (by omega)
  have t2 := Int.tmod_nonneg (l.length : Int) hw.1
  have k1 : 1 ≤ k ∧ k ≤ l.length := by omega
  have eM : IntKind.i64.wrap (1 + (IntKind.i64.wrap w).tmod (l.length : Int)) = (k : Int) := by
    rw [wrapS w ⟨by omega, by omega⟩, wrapS _ ⟨by omega, by omega⟩]; omega
  have eS : (IntKind.i64.wrap (1 + (IntKind.i64.wrap w).tmod (l.length : Int)) - 0).toNat = k := by rw [eM]; omega
  have kl : (l.take k).length = k := tk_len k1.2
  intro _
  refine call_new [(0, some 0)] (make_ok f l hl hf) rfl rfl rfl rfl ?_ ?_ ?_
  · (repeat' first | exact trivial | exact rfl | refine And.intro ?_ ?_)
  · (repeat' first | exact trivial | exact rfl | refine And.intro ?_ ?_)
  intro v h' hv
  rcases hv with ⟨hM, ps, hS, rfl, rfl⟩ | ⟨hM, hv, rfl⟩
  rotate_left
  · rw [ee l (by omega)] at hv
    subst hv
    refine ⟨[], 1, [], .tup [.nils, .int .i64 1], rfl, rfl, rfl, rfl, rfl, ?_, ?_, ?_⟩
    · (repeat' first | exact trivial | exact rfl | refine And.intro ?_ ?_)
    · (repeat' first | exact trivial | exact rfl | refine And.intro ?_ ?_)
    intro _; refine ⟨fun q => by have q : (l.length : Int) = 0 := q; omega, ?_⟩
    intro _; refine ⟨⟨by omega, show (0 : Int) ≤ IntKind.i64.wrap (1 + (IntKind.i64.wrap w).tmod (l.length : Int)) by rw [eM]; omega, show IntKind.i64.wrap (1 + (IntKind.i64.wrap w).tmod (l.length : Int)) ≤ (l.length : Int) by rw [eM]; omega⟩, ?_⟩
    intro _
    refine call_new [(0, some 0)] (make_pre f l k k1.2 hl hf) rfl rfl rfl rfl ?_ ?_ ?_
    · (repeat' first | exact trivial | exact rfl | refine And.intro ?_ ?_)
    · (repeat' first | exact trivial | exact rfl | refine And.intro ?_ ?_)
      all_goals exact eS.symm
    intro v h' hv
    rcases hv with ⟨hM2, qs, hS2, rfl, rfl⟩ | ⟨hM2, hv, rfl⟩
    · refine ⟨[(1, some 1)], 2, [(1, .arr PK .grow (.recs qs))], .tup [.grw 1 qs.length, .int .i64 0], rfl, rfl, rfl, rfl, rfl, ?_, ?_, ?_⟩
      · (repeat' first | exact trivial | exact rfl | refine And.intro ?_ ?_)
      · (repeat' first | exact trivial | exact rfl | refine And.intro ?_ ?_)
      intro _; refine ⟨fun g => ?_, fun g => ?_⟩
      rotate_left
      · exact absurd (show ((1 : Int) != 0) = false from g) (by decide)
      intro _; refine ⟨fun g => ?_, fun g => ?_⟩
      rotate_left
      · exact absurd (show ((0 : Int) == 0) = false from g) (by decide)
      intro _
      show true = true
      rfl
    · rw [ee _ (by omega)] at hv
      subst hv
      refine ⟨[], 1, [], .tup [.nils, .int .i64 1], rfl, rfl, rfl, rfl, rfl, ?_, ?_, ?_⟩
      · (repeat' first | exact trivial | exact rfl | refine And.intro ?_ ?_)
      · (repeat' first | exact trivial | exact rfl | refine And.intro ?_ ?_)
      intro _; refine ⟨fun g => ?_, fun g => ?_⟩
      rotate_left
      · exact absurd (show ((1 : Int) != 0) = false from g) (by decide)
      intro _; refine ⟨fun g => ?_, fun g => ?_⟩
      · exact absurd (show ((1 : Int) == 0) = true from g) (by decide)
      intro _
      show ((1 : Int) == 1) = true
      rfl
  refine ⟨[(1, some 1)], 2, [(1, .arr PK .grow (.recs ps))], .tup [.grw 1 ps.length, .int .i64 0], rfl, rfl, rfl, rfl, rfl, ?_, ?_, ?_⟩
  · (repeat' first | exact trivial | exact rfl | refine And.intro ?_ ?_)
  · (repeat' first | exact trivial | exact rfl | refine And.intro ?_ ?_)
  intro _; refine ⟨fun q => by have q : (l.length : Int) = 0 := q; omega, ?_⟩
  intro _; refine ⟨⟨by omega, show (0 : Int) ≤ IntKind.i64.wrap (1 + (IntKind.i64.wrap w).tmod (l.length : Int)) by rw [eM]; omega, show IntKind.i64.wrap (1 + (IntKind.i64.wrap w).tmod (l.length : Int)) ≤ (l.length : Int) by rw [eM]; omega⟩, ?_⟩
  intro _
  refine call_new [(0, some 0)] (make_pre f l k k1.2 hl hf) rfl rfl rfl rfl ?_ ?_ ?_
  · (repeat' first | exact trivial | exact rfl | refine And.intro ?_ ?_)
  · (repeat' first | exact trivial | exact rfl | refine And.intro ?_ ?_)
    all_goals exact eS.symm
  intro v h' hv
  rcases hv with ⟨hM2, qs, hS2, rfl, rfl⟩ | ⟨hM2, hv, rfl⟩
  rotate_left
  · exact absurd ⟨⟨by omega, by omega, allC_take hM.1.2.2 k1.2⟩, hM.2.1, by rw [kl]; have := hM.2.2; omega⟩ hM2
  refine ⟨[(2, some 1)], 3, [(2, .arr PK .grow (.recs qs))], .tup [.grw 2 qs.length, .int .i64 0], rfl, rfl, rfl, rfl, rfl, ?_, ?_, ?_⟩
  · (repeat' first | exact trivial | exact rfl | refine And.intro ?_ ?_)
  · (repeat' first | exact trivial | exact rfl | refine And.intro ?_ ?_)
  obtain ⟨m, m1, m2, m3, m4, m5⟩ := spl_begins hS hM.1.2.2 (by omega) k1 hS2
  have pl := hS.len
  have em : IntKind.i64.wrap ((qs.length : Int) - 1) = (m : Int) := by rw [m1, wrapS _ ⟨by omega, by omega⟩]; omega
  have en : (IntKind.i64.wrap ((qs.length : Int) - 1)).toNat = m := by rw [em]; omega
  have en0 : (IntKind.i64.wrap ((qs.length : Int) - 1) - 0).toNat = m := by rw [em]; omega
  intro _; refine ⟨fun g => ?_, fun g => ?_⟩
  · exact absurd (show ((0 : Int) != 0) = true from g) (by decide)
  intro _; refine ⟨fun g => ?_, fun g => ?_⟩
  · exact absurd (show ((0 : Int) != 0) = true from g) (by decide)
  intro _; refine ⟨fun g => ?_, fun g => ?_⟩
  · have g := beq_iff_eq.1 (show ((qs.length : Int) == 0) = true from g)
    omega
  intro _; refine ⟨fun g => ?_, fun g => ?_⟩
  · have g := of_decide_eq_true (show decide ((qs.length : Int) > (ps.length : Int)) = true from g)
    omega
  intro _; refine ⟨⟨by omega, show (0 : Int) ≤ IntKind.i64.wrap ((qs.length : Int) - 1) by rw [em]; omega, show IntKind.i64.wrap ((qs.length : Int) - 1) ≤ (ps.length : Int) by rw [em]; omega, .inr rfl⟩, ?_⟩
  intro _; refine ⟨⟨by omega, show (0 : Int) ≤ IntKind.i64.wrap ((qs.length : Int) - 1) by rw [em]; omega, show IntKind.i64.wrap ((qs.length : Int) - 1) ≤ (qs.length : Int) by rw [em]; omega, .inr rfl⟩, ?_⟩
  intro _; refine Or.inl ?_
  intro _
  refine call_pure [(0, some 1), (1, some 2)] (same_ok ps qs m m (by omega) (by omega) (by omega) (by omega)) rfl rfl rfl ?_ ?_ ?_
  · (repeat' first | exact trivial | exact rfl | refine And.intro ?_ ?_)
  · (repeat' first | exact trivial | exact rfl | refine And.intro ?_ ?_)
    all_goals exact en0.symm
  intro v hv _
  subst hv
  have eI : decide (NI (ps.take m) = NI (qs.take m)) = true := decide_eq_true (by rw [m3])
  intro _; refine ⟨fun g => ?_, fun g => ?_⟩
  rotate_left
  · exact absurd (show decide (NI (ps.take m) = NI (qs.take m)) = false from g) (by rw [eI]; decide)
  intro _; refine ⟨show (0 : Int) ≤ IntKind.i64.wrap ((qs.length : Int) - 1) ∧ IntKind.i64.wrap ((qs.length : Int) - 1) < (ps.length : Int) by rw [em]; omega, ?_⟩
  intro _; refine ⟨show (IntKind.i64.wrap ((qs.length : Int) - 1)).toNat < ps.length by rw [en]; omega, ?_⟩
  intro _; refine ⟨show (0 : Int) ≤ IntKind.i64.wrap ((qs.length : Int) - 1) ∧ IntKind.i64.wrap ((qs.length : Int) - 1) < (qs.length : Int) by rw [em]; omega, ?_⟩
  intro _; refine ⟨show (IntKind.i64.wrap ((qs.length : Int) - 1)).toNat < qs.length by rw [en]; omega, ?_⟩
  intro _; refine ⟨fun g => ?_, fun g => ?_⟩
  rotate_left
  · have g : (gx ps (IntKind.i64.wrap ((qs.length : Int) - 1)).toNat 0 == gx qs (IntKind.i64.wrap ((qs.length : Int) - 1)).toNat 0) = false := g
    rw [en, m4] at g
    simp at g
  intro _; refine ⟨show (0 : Int) ≤ IntKind.i64.wrap ((qs.length : Int) - 1) ∧ IntKind.i64.wrap ((qs.length : Int) - 1) < (ps.length : Int) by rw [em]; omega, ?_⟩
  intro _; refine ⟨show (IntKind.i64.wrap ((qs.length : Int) - 1)).toNat < ps.length by rw [en]; omega, ?_⟩
  intro _; refine ⟨show (0 : Int) ≤ IntKind.i64.wrap ((qs.length : Int) - 1) ∧ IntKind.i64.wrap ((qs.length : Int) - 1) < (qs.length : Int) by rw [em]; omega, ?_⟩
  intro _; refine ⟨show (IntKind.i64.wrap ((qs.length : Int) - 1)).toNat < qs.length by rw [en]; omega, ?_⟩
  intro _; refine ⟨by kernel_rfl, ?_⟩
  intro _
  show decide (gx ps (IntKind.i64.wrap ((qs.length : Int) - 1)).toNat 1 ≥ gx qs (IntKind.i64.wrap ((qs.length : Int) - 1)).toNat 1) = true
  rw [en]
  exact decide_eq_true m5

theorem walk (w : World) (f : Int) (w_f : (Lit.int .i64 f).wf = true) (v_l : Value) (s_l : Src) (l : List Int) (cap_l : Nat) (hk_l : s_l.ks = [.int .i64]) (ha_l : s_l.ac = .ints l) (hs_l : s_l.lies w) (hn_l : s_l.at_ = none → l.length = 0) (hc_l : l.length ≤ cap_l) (hv_l : v_l = s_l.val cap_l) (hm_l : l.length ≤ maxLen) (w_l : ∀ n ∈ l, (Lit.int .i64 n).wf = true) (q : Int) (w_q : (Lit.int .u8 q).wf = true) :
    Calls Try.prog 9 #[.int .i64 f, v_l, .int .u8 q] w fun e w' => e = .returned (.bool true) ∧ Below w.heap.size w w' := by
  obtain ⟨at_l, ks_l, ac_l⟩ := s_l
  simp only [] at hk_l ha_l
  subst hk_l ha_l
  have h_l : l.length ≤ 9223372036854775807 := by unfold maxLen at hm_l; omega
  have b_f := w_f
  simp [Lit.wf, IntKind.min, IntKind.max, IntKind.signed, IntKind.bits] at b_f
  have b_q := w_q
  simp [Lit.wf, IntKind.min, IntKind.max, IntKind.signed, IntKind.bits] at b_q
  exact top_run (by kernel_rfl) (by kernel_rfl) (T := []) (fun f hf w => by
      exact (List.not_mem_nil hf).elim) (l := [⟨at_l, [.int .i64], .ints l⟩]) (args := [.int .i64 f, .slc 0 1 0 l.length, .int .u8 q]) («as» := [.int .i64 f, Src.av 0 cap_l ⟨at_l, [.int .i64], .ints l⟩, .int .u8 q]) (cargs := [.int .i64 f, v_l, .int .u8 q]) w
    (fun s h => by
      rcases List.mem_cons.1 h with e | h
      · subst e; exact hs_l
      · exact (List.not_mem_nil h).elim)
    (Cvs.cons mk_int (Cvs.cons (src_cv (s := ⟨at_l, [.int .i64], .ints l⟩) rfl 1 hc_l hn_l) (Cvs.cons mk_int Cvs.nil)))
    (by simp only [Go.Vm.convs, Go.Vm.conv]; rw [src_conv (j := 0) (s := ⟨at_l, [.int .i64], .ints l⟩) rfl, hv_l])
    (law9 f l q b_f (by omega) h_l)

set_option maxRecDepth 100000 in
theorem lifted (os : Os) (started : os.Started) (H : Type) (enc : TypeId × Value → H) :
    ReturnsInHanded {} Try.checked os 9 .any (Rows.curveBeginsSpec.pre6 enc Try.prog Try.f9 Rows.curveBeginsRow.domain false) (Rows.curveBeginsSpec.post enc Try.prog Try.f9 false true false false) := by
  refine returnsInHanded_of_change (C := Try.checked) own started (by kernel_rfl) Try.func9
    (ChangeSpec.witness6 (enc := enc) (C := Try.checked) false ⟨#[], #[.int .i64 0, .slice none 0 0, .int .u8 0], []⟩ 8 (by kernel_rfl) (by kernel_rfl) (by kernel_rfl) (by kernel_rfl)) ?_
  intro W base args ds gs before hval0 hW hcnd _
  have hval : ∀ (j : Nat) t v, Try.f9.params[j]? = some t → args[j]? = some v → Value.okWide Try.prog W .any base t v := hval0
  have hW' := hW
  obtain ⟨p, q, hA0, hV, rfl, hfz, hnd⟩ := hW
  have hA : DataW.TrodAll enc Try.prog W 0 (fun _ => true) true Try.f9.params.toList args.toList ds p := hA0
  rw [Try.params9] at hA hval
  obtain ⟨v0, vs0, d0, ds0, p0, q0, hargs, rfl, rfl, h0, r0⟩ := trodAll_cons hA
  obtain ⟨v1, vs1, d1, ds1, p1, q1, rfl, rfl, rfl, h1, r1⟩ := trodAll_cons r0
  obtain ⟨v2, vs2, d2, ds2, p2, q2, rfl, rfl, rfl, h2, r2⟩ := trodAll_cons r1
  obtain ⟨rfl, rfl, rfl⟩ := trodAll_nil r2
  obtain rfl : args = #[v0, v1, v2] := by cases args; simp_all
  obtain ⟨rfl, rfl⟩ := trodVars_none hV
  obtain ⟨f, rfl, rfl, rfl, w_f⟩ := open_int Try.underlying3 (hval 0 3 v0 rfl rfl) h0
  obtain ⟨s_l, l, cap_l, hk_l, ha_l, hs_l, hn_l, hc_l, hv_l, hm_l, w_l⟩ := Go.Vm2.open_list Try.underlying23 Try.underlying3 (by kernel_rfl) (hval 1 23 v1 rfl rfl) h1
  have hlt1 : ∀ x ∈ p1, x.block < W.heap.size := fun x hx => by simpa using hW'.lt x (by simp [hx])
  obtain ⟨q, rfl, rfl, rfl, w_q⟩ := open_int Try.underlying5 (hval 2 5 v2 rfl rfl) h2
  clear hA0 hval0
  refine (walk W f w_f v1 s_l l cap_l hk_l ha_l hs_l hn_l hc_l hv_l hm_l w_l q w_q).mono fun e W' ⟨he, hg⟩ => ?_
  subst he
  exact ⟨_, rfl, _, _, _, [], _, [], hW', trodAll_cons_mk (shut_bool Try.underlying4 _) trodAll_mk0, (trodAll_cons_mk (shut_int Try.underlying3 w_f) (trodAll_cons_mk (Below.trod laidOut (by kernel_rfl) (of_decide_eq_true (by kernel_rfl)) h1 hg hlt1) (trodAll_cons_mk (shut_int Try.underlying5 w_q) trodAll_mk0))), rfl, hg.frame _, fun h => by cases h⟩

theorem over : Rows.curveBeginsRow.holds Try.pinned (OpenSpec.ofChange Rows.curveBeginsSpec) :=
  OpenClaim.holds_of_wide 9 Try.f9 rfl rfl rfl rfl rfl rfl rfl ⟨rfl, rfl, rfl, rfl, rfl⟩ rfl rfl rfl rfl rfl (by kernel_rfl) Try.func9 (by kernel_rfl)
    (of_decide_eq_true (by kernel_rfl)) (by unfold Func.isWrapper; first | (rw [if_pos (by decide +kernel)]; kernel_rfl) | (rw [if_neg (by decide +kernel)]; exact ⟨rfl, rfl⟩))
    (fun os started H enc _ => lifted os started H enc)

/-- the statement -/
theorem proved : Rows.CurveBeginsSaid :=
  over
#print axioms proved
end Go.Proofs.Ytjcfmocpmjeddaa.curveBegins
