/-
  CurveOne: whatever the arguments, the law returns true, and its arguments read as before. No conditions.
-/
import Derived.Test.YtjcfmocpmjeddaaRows
import Derived.Test.YtjcfmocpmjeddaaVwOpen2
import Derived.Test.YtjcfmocpmjeddaaVwRules7
import Derived.WalkKit
import Derived.ProofKit
import Derived.OpenShut
import Derived.Carry
import Derived.Test.YtjcfmocpmjeddaaSrtA
import Derived.Test.YtjcfmocpmjeddaaSrtB
import Derived.Test.YtjcfmocpmjeddaaCrvA
namespace Go.Proofs.Ytjcfmocpmjeddaa.curveOne
open Go.ChangeShapes Go.WideShapes Go.ChangeAt Go.RowKit
open Go.Vm (Facts Val Sound)
open Go.Vm2
set_option linter.unusedVariables false
set_option linter.unusedSectionVars false

open Go.Proofs.Ytjcfmocpmjeddaa.crv
theorem own : ownKnob Try.prog.godebug = none := by kernel_rfl
theorem laidOut : laidOutB Try.prog = true := by kernel_rfl
set_option maxRecDepth 100000
theorem gx_wf {ps : Rws} (hw : ∀ r ∈ ps, Go.Vm2.rowWf PK r) (i j : Nat) (hi : i < ps.length) (hj : j < 5) : -9223372036854775808 ≤ gx ps i j ∧ gx ps i j ≤ 9223372036854775807 := by
  have hm : ps[i] ∈ ps := List.getElem_mem hi
  have hk : PK[j]? = some (.int .i64) := by
    match j, hj with
    | 0, _ => rfl
    | 1, _ => rfl
    | 2, _ => rfl
    | 3, _ => rfl
    | 4, _ => rfl
  have hd := (hw _ hm).2 j (.int .i64) hk
  obtain ⟨n, e, hn⟩ := hd
  have e2 : gx ps i j = n := by
    unfold gx
    rw [show ps.getD i [] = ps[i] by rw [List.getD_eq_getElem?_getD, List.getElem?_eq_getElem hi]; rfl, e]; rfl
  rw [e2]
  simp [Lit.wf, IntKind.min, IntKind.max, IntKind.signed, IntKind.bits] at hn
  exact hn
theorem gb_of {ps : Rws} (hl : ps.length ≤ 9223372036854775807) (hw : ∀ r ∈ ps, Go.Vm2.rowWf PK r) : gb ps := by
  refine ⟨hl, ?_⟩
  by_cases h : 0 < ps.length
  · exact gx_wf hw 0 0 h (by decide)
  · have : ps = [] := List.eq_nil_of_length_eq_zero (by omega)
    subst this
    exact ⟨by decide, by decide⟩
abbrev DO_ (ps : Rws) : List (Nat × Ob) := [(0, .arr PK .ro (.recs ps))]
abbrev up_ (v : V) : Prop := IsTrue v

theorem law5 (ps : Rws) (hl : ps.length ≤ 9223372036854775807) (hw : ∀ r ∈ ps, Go.Vm2.rowWf PK r) : SemF Try.prog 5 [.slc 0 5 0 ps.length] ⟨1, 1, [(0, .arr PK .ro (.recs ps))]⟩ (fun v _ => IsTrue v) := by
  have hb := gb_of hl hw
  refine enter tt_ok Try.func5 (nt := 51) (cd := body Try.f5) rfl rfl rfl rfl ?_
  intro _
  refine call_pure [] (hd_ok) rfl rfl rfl ?_ ?_ ?_
  · (repeat' first | exact trivial | exact rfl | refine And.intro ?_ ?_)
  · (repeat' first | exact trivial | exact rfl | refine And.intro ?_ ?_)
  intro v hv _
  subst hv
  intro _
  refine call_pure [(0, some 0)] (few_ok ps hl) rfl rfl rfl ?_ ?_ ?_
  · (repeat' first | exact trivial | exact rfl | refine And.intro ?_ ?_)
  · (repeat' first | exact trivial | exact rfl | refine And.intro ?_ ?_)
  intro v hv _
  obtain ⟨b, rfl⟩ := hv
  intro _; refine ⟨fun g => ?_, fun g => ?_⟩
  · intro _
    show true = true
    rfl
  intro _; refine ⟨fun g => ?_, fun g => ?_⟩
  · intro _
    show true = true
    rfl
  intro _
  refine call_pure [(0, some 0)] (valid2_ok ps hb) rfl rfl rfl ?_ ?_ ?_
  · (repeat' first | exact trivial | exact rfl | refine And.intro ?_ ?_)
  · (repeat' first | exact trivial | exact rfl | refine And.intro ?_ ?_)
  intro v hv _
  rcases hv with ⟨hV, rfl⟩ | ⟨hV, rfl⟩
  rotate_left
  · intro _
    show true = true
    rfl
  have h1 := hV.1.1.1
  obtain ⟨v1, v2, hM⟩ := hV.len
  intro _
  refine call_new [(0, some 0)] (values_ok ps hb) rfl rfl rfl rfl ?_ ?_ ?_
  · (repeat' first | exact trivial | exact rfl | refine And.intro ?_ ?_)
  · (repeat' first | exact trivial | exact rfl | refine And.intro ?_ ?_)
  intro v h' hv
  rcases hv with ⟨_, rfl, rfl⟩ | ⟨hn, _⟩
  rotate_left
  · exact absurd hV hn
  refine ⟨[(1, some 1)], 2, [(1, .arr [.int .i64] .grow (.ints (vals ps)))], .tup [.grw 1 (vals ps).length, .int .i64 0], rfl, rfl, rfl, rfl, rfl, ?_, ?_, ?_⟩
  · (repeat' first | exact trivial | exact rfl | refine And.intro ?_ ?_)
  · (repeat' first | exact trivial | exact rfl | refine And.intro ?_ ?_)
  intro _; refine ⟨show (0 : Int) ≤ 0 ∧ (0 : Int) < (ps.length : Int) by omega, ?_⟩
  intro _; refine ⟨show 0 + (0 : Int).toNat < ps.length by show 0 + 0 < ps.length; omega, ?_⟩
  intro _
  refine call_new [(0, some 1)] (make_ok (gx ps 0 0) (vals ps) (by omega) hb.2) rfl rfl rfl rfl ?_ ?_ ?_
  · (repeat' first | exact trivial | exact rfl | refine And.intro ?_ ?_)
  · (repeat' first | exact trivial | exact rfl | refine And.intro ?_ ?_)
  intro v h' hv
  rcases hv with ⟨_, qs, hS, rfl, rfl⟩ | ⟨hn, _⟩
  rotate_left
  · exact absurd hM hn
  refine ⟨[(2, some 1)], 3, [(2, .arr PK .grow (.recs qs))], .tup [.grw 2 qs.length, .int .i64 0], rfl, rfl, rfl, rfl, rfl, ?_, ?_, ?_⟩
  · (repeat' first | exact trivial | exact rfl | refine And.intro ?_ ?_)
  · (repeat' first | exact trivial | exact rfl | refine And.intro ?_ ?_)
  have hq : NI qs = NI ps := by
    obtain ⟨rs, hr, he⟩ := hV.2.2
    rw [hS.uniq hV.2.1 v2 hr]; exact he
  have ql := hS.len
  intro _; refine ⟨fun g => ?_, fun g => ?_⟩
  rotate_left
  · exact absurd (show ((0 : Int) == 0) = false from g) (by decide)
  intro _; refine ⟨fun g => ?_, fun g => ?_⟩
  rotate_left
  · exact absurd (show ((0 : Int) == 0) = false from g) (by decide)
  intro _
  refine call_pure [(0, some 0), (1, some 2)] (same_ok ps qs ps.length qs.length (Nat.le_refl _) (Nat.le_refl _) hl (by omega)) rfl rfl rfl ?_ ?_ ?_
  · (repeat' first | exact trivial | exact rfl | refine And.intro ?_ ?_)
  · (repeat' first | exact trivial | exact rfl | refine And.intro ?_ ?_)
  intro v hv _
  subst hv
  intro _
  show decide (NI (ps.take ps.length) = NI (qs.take qs.length)) = true
  rw [decide_eq_true]
  rw [List.take_length, List.take_length, hq]

theorem walk (w : World) (v_ps : Value) (s_ps : Src) (ps : List (List Go.Vm2.D)) (cap_ps : Nat) (hk_ps : s_ps.ks = [.int .i64, .int .i64, .int .i64, .int .i64, .int .i64]) (ha_ps : s_ps.ac = .recs ps) (hs_ps : s_ps.lies w) (hn_ps : s_ps.at_ = none → ps.length = 0) (hc_ps : ps.length ≤ cap_ps) (hv_ps : v_ps = s_ps.val cap_ps) (hm_ps : ps.length ≤ maxLen) (w_ps : ∀ n ∈ ps, rowWf [.int .i64, .int .i64, .int .i64, .int .i64, .int .i64] n) :
    Calls Try.prog 5 #[v_ps] w fun e w' => e = .returned (.bool true) ∧ Below w.heap.size w w' := by
  obtain ⟨at_ps, ks_ps, ac_ps⟩ := s_ps
  simp only [] at hk_ps ha_ps
  subst hk_ps ha_ps
  have h_ps : ps.length ≤ 9223372036854775807 := by unfold maxLen at hm_ps; omega
  exact top_run (by kernel_rfl) (by kernel_rfl) (T := []) (fun f hf w => by
      exact (List.not_mem_nil hf).elim) (l := [⟨at_ps, [.int .i64, .int .i64, .int .i64, .int .i64, .int .i64], .recs ps⟩]) (args := [.slc 0 5 0 ps.length]) («as» := [Src.av 0 cap_ps ⟨at_ps, [.int .i64, .int .i64, .int .i64, .int .i64, .int .i64], .recs ps⟩]) (cargs := [v_ps]) w
    (fun s h => by
      rcases List.mem_cons.1 h with e | h
      · subst e; exact hs_ps
      · exact (List.not_mem_nil h).elim)
    (Cvs.cons (src_cv (s := ⟨at_ps, [.int .i64, .int .i64, .int .i64, .int .i64, .int .i64], .recs ps⟩) rfl 5 hc_ps hn_ps) Cvs.nil)
    (by simp only [Go.Vm.convs]; rw [src_conv (j := 0) (s := ⟨at_ps, [.int .i64, .int .i64, .int .i64, .int .i64, .int .i64], .recs ps⟩) rfl, hv_ps])
    (law5 ps h_ps w_ps)

set_option maxRecDepth 100000 in
theorem lifted (os : Os) (started : os.Started) (H : Type) (enc : TypeId × Value → H) :
    ReturnsInHanded {} Try.checked os 5 .any (Rows.curveOneSpec.pre6 enc Try.prog Try.f5 Rows.curveOneRow.domain false) (Rows.curveOneSpec.post enc Try.prog Try.f5 false true false false) := by
  refine returnsInHanded_of_change (C := Try.checked) own started (by kernel_rfl) Try.func5
    (ChangeSpec.witness6 (enc := enc) (C := Try.checked) false ⟨#[], #[.slice none 0 0], []⟩ 8 (by kernel_rfl) (by kernel_rfl) (by kernel_rfl) (by kernel_rfl)) ?_
  intro W base args ds gs before hval0 hW hcnd _
  have hval : ∀ (j : Nat) t v, Try.f5.params[j]? = some t → args[j]? = some v → Value.okWide Try.prog W .any base t v := hval0
  have hW' := hW
  obtain ⟨p, q, hA0, hV, rfl, hfz, hnd⟩ := hW
  have hA : DataW.TrodAll enc Try.prog W 0 (fun _ => true) true Try.f5.params.toList args.toList ds p := hA0
  rw [Try.params5] at hA hval
  obtain ⟨v0, vs0, d0, ds0, p0, q0, hargs, rfl, rfl, h0, r0⟩ := trodAll_cons hA
  obtain ⟨rfl, rfl, rfl⟩ := trodAll_nil r0
  obtain rfl : args = #[v0] := by cases args; simp_all
  obtain ⟨rfl, rfl⟩ := trodVars_none hV
  obtain ⟨s_ps, ps, cap_ps, hk_ps, ha_ps, hs_ps, hn_ps, hc_ps, hv_ps, hm_ps, w_ps⟩ := Go.Vm2.open_recsN (dp := 3) (ks := [.int .i64, .int .i64, .int .i64, .int .i64, .int .i64]) Try.underlying22 (by kernel_rfl) (by simp) (by kernel_rfl) (hval 0 22 v0 rfl rfl) h0
  have hlt0 : ∀ x ∈ p0, x.block < W.heap.size := fun x hx => by simpa using hW'.lt x (by simp [hx])
  clear hA0 hval0
  refine (walk W v0 s_ps ps cap_ps hk_ps ha_ps hs_ps hn_ps hc_ps hv_ps hm_ps w_ps).mono fun e W' ⟨he, hg⟩ => ?_
  subst he
  exact ⟨_, rfl, _, _, _, [], _, [], hW', trodAll_cons_mk (shut_bool Try.underlying4 _) trodAll_mk0, (trodAll_cons_mk (Below.trod laidOut (by kernel_rfl) (of_decide_eq_true (by kernel_rfl)) h0 hg hlt0) trodAll_mk0), rfl, hg.frame _, fun h => by cases h⟩

theorem over : Rows.curveOneRow.holds Try.pinned (OpenSpec.ofChange Rows.curveOneSpec) :=
  OpenClaim.holds_of_wide 5 Try.f5 rfl rfl rfl rfl rfl rfl rfl ⟨rfl, rfl, rfl, rfl, rfl⟩ rfl rfl rfl rfl rfl (by kernel_rfl) Try.func5 (by kernel_rfl)
    (of_decide_eq_true (by kernel_rfl)) (by unfold Func.isWrapper; first | (rw [if_pos (by decide +kernel)]; kernel_rfl) | (rw [if_neg (by decide +kernel)]; exact ⟨rfl, rfl⟩))
    (fun os started H enc _ => lifted os started H enc)

/-- the statement -/
theorem proved : Rows.CurveOneSaid :=
  over
#print axioms proved
end Go.Proofs.Ytjcfmocpmjeddaa.curveOne
