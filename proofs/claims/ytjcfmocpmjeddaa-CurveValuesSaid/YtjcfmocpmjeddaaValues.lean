/-
  CurveValues: whatever the arguments, the law returns true, and its arguments read as before. No conditions.
-/
import Derived.Test.YtjcfmocpmjeddaaRows
import Derived.Test.YtjcfmocpmjeddaaVwOpen2
import Derived.Test.YtjcfmocpmjeddaaVwRules7
import Derived.WalkKit
import Derived.ProofKit
import Derived.OpenShut
import Derived.Carry
import Derived.Test.YtjcfmocpmjeddaaSrtA
import Derived.Test.YtjcfmocpmjeddaaSrtB
import Derived.Test.YtjcfmocpmjeddaaCrvA
namespace Go.Proofs.Ytjcfmocpmjeddaa.curveValues
open Go.ChangeShapes Go.WideShapes Go.ChangeAt Go.RowKit
open Go.Vm (Facts Val Sound)
open Go.Vm2
set_option linter.unusedVariables false
set_option linter.unusedSectionVars false

open Go.Proofs.Ytjcfmocpmjeddaa.crv
theorem own : ownKnob Try.prog.godebug = none := by kernel_rfl
theorem laidOut : laidOutB Try.prog = true := by kernel_rfl
set_option maxRecDepth 100000
set_option maxHeartbeats 8000000 in
theorem law4 (f : Int) (l : List Int) (hf : -9223372036854775808 ≤ f ∧ f ≤ 9223372036854775807) (hl : l.length ≤ 9223372036854775807) : SemF Try.prog 4 [.int .i64 f, .slc 0 1 0 l.length] ⟨1, 1, [(0, .arr [.int .i64] .ro (.ints l))]⟩ (fun v _ => IsTrue v) := by
  refine enter tt_ok Try.func4 (nt := 103) (cd := body Try.f4) rfl rfl rfl rfl ?_
  intro _
  refine call_pure [] (hd_ok) rfl rfl rfl ?_ ?_ ?_
  · (repeat' first | exact trivial | exact rfl | refine And.intro ?_ ?_)
  · (repeat' first | exact trivial | exact rfl | refine And.intro ?_ ?_)
  intro v hv _
  subst hv
  intro _; refine ⟨fun g => ?_, fun g => ?_⟩
  · intro _
    show true = true
    rfl
  have g1 := of_decide_eq_false (show decide ((l.length : Int) > 40) = false from g)
  have ee : ∀ (l : List Int), l.length ≤ 40 → (if 4000 < l.length then (2 : Int) else 1) = 1 := fun l h => if_neg (by omega)
  intro _
  refine call_new [(0, some 0)] (make_ok f l hl hf) rfl rfl rfl rfl ?_ ?_ ?_
  · (repeat' first | exact trivial | exact rfl | refine And.intro ?_ ?_)
  · (repeat' first | exact trivial | exact rfl | refine And.intro ?_ ?_)
  intro v h' hv
  rcases hv with ⟨hM, ps, hS, rfl, rfl⟩ | ⟨hM, hv, rfl⟩
  rotate_left
  · rw [ee l (by omega)] at hv
    subst hv
    refine ⟨[], 1, [], .tup [.nils, .int .i64 1], rfl, rfl, rfl, rfl, rfl, ?_, ?_, ?_⟩
    · (repeat' first | exact trivial | exact rfl | refine And.intro ?_ ?_)
    · (repeat' first | exact trivial | exact rfl | refine And.intro ?_ ?_)
    intro _; refine ⟨fun g => ?_, fun g => ?_⟩
    rotate_left
    · exact absurd (show ((1 : Int) != 0) = false from g) (by decide)
    intro _
    show ((0 : Int) == 0) = true
    rfl
  refine ⟨[(1, some 1)], 2, [(1, .arr PK .grow (.recs ps))], .tup [.grw 1 ps.length, .int .i64 0], rfl, rfl, rfl, rfl, rfl, ?_, ?_, ?_⟩
  · (repeat' first | exact trivial | exact rfl | refine And.intro ?_ ?_)
  · (repeat' first | exact trivial | exact rfl | refine And.intro ?_ ?_)
  obtain ⟨hV, eV, eF⟩ := hS.vd hM
  have m1 := hM.1.1; have hC := hM.1.2.2; have m3 := hM.2.1; have m4 := hM.2.2
  have pl := hS.len
  intro _; refine ⟨fun g => ?_, fun g => ?_⟩
  · exact absurd (show ((0 : Int) != 0) = true from g) (by decide)
  have hb : gb ps := gbp eF (by omega) hf
  have vl : (vals ps).length = l.length := by rw [eV]
  intro _
  refine call_new [(0, some 1)] (values_ok ps hb) rfl rfl rfl rfl ?_ ?_ ?_
  · (repeat' first | exact trivial | exact rfl | refine And.intro ?_ ?_)
  · (repeat' first | exact trivial | exact rfl | refine And.intro ?_ ?_)
  intro v h' hv
  rcases hv with ⟨_, rfl, rfl⟩ | ⟨hn, _⟩
  rotate_left
  · exact absurd hV hn
  refine ⟨[(2, some 1)], 3, [(2, .arr [.int .i64] .grow (.ints (vals ps)))], .tup [.grw 2 (vals ps).length, .int .i64 0], rfl, rfl, rfl, rfl, rfl, ?_, ?_, ?_⟩
  · (repeat' first | exact trivial | exact rfl | refine And.intro ?_ ?_)
  · (repeat' first | exact trivial | exact rfl | refine And.intro ?_ ?_)
  intro _; refine ⟨fun g => ?_, fun g => ?_⟩
  · exact absurd (show ((0 : Int) != 0) = true from g) (by decide)
  intro _
  refine call_pure [(0, some 1)] (valid2_ok ps hb) rfl rfl rfl ?_ ?_ ?_
  · (repeat' first | exact trivial | exact rfl | refine And.intro ?_ ?_)
  · (repeat' first | exact trivial | exact rfl | refine And.intro ?_ ?_)
  intro v hv _
  rcases hv with ⟨_, rfl⟩ | ⟨hn, rfl⟩
  rotate_left
  · exact absurd hV hn
  intro _
  refine call_pure [(0, some 2), (1, some 0)] (sameInts_ok (vals ps) l (by omega) (by omega)) rfl rfl rfl ?_ ?_ ?_
  · (repeat' first | exact trivial | exact rfl | refine And.intro ?_ ?_)
  · (repeat' first | exact trivial | exact rfl | refine And.intro ?_ ?_)
  intro v hv _
  subst hv
  intro _; refine ⟨fun g => ?_, fun g => ?_⟩
  · have g : (!decide (vals ps = l)) = true := g
    rw [decide_eq_true eV] at g
    exact absurd g (by decide)
  intro _
  refine loop2 tt_ok [10] [] 3 (fun k : { k : Nat // k ≤ l.length } => [(10, .int .i64 (k.1 : Nat))]) (fun _ => []) (fun k => l.length - k.1) ⟨0, Nat.zero_le _⟩ ?_
  intro _
  refine ⟨⟨th [] 3, rfl, rfl, rfl, rfl, rfl, rfl, ?_, ?_⟩, ?_⟩
  · (repeat' first | exact trivial | exact rfl | refine And.intro ?_ ?_)
  · (repeat' first | exact trivial | exact rfl | refine And.intro ?_ ?_)
  intro ⟨k, hk⟩
  have hk : k ≤ l.length := hk
  intro _; refine ⟨fun g => ?_, fun g => ?_⟩
  rotate_left
  · have e1 : IntKind.i64.wrap (f - 1) = f - 1 := wrapS _ ⟨by omega, by omega⟩
    have e2 : IntKind.i64.wrap (f + (l.length : Int)) = f + l.length := wrapS _ ⟨by omega, by omega⟩
    have a1 : AtR ps (f - 1) (.tup [.int .i64 0, .int .i64 1]) := .inr ⟨fun h => by have := h.2.1; omega, rfl⟩
    have a2 : AtR ps (f + l.length) (.tup [.int .i64 0, .int .i64 1]) := .inr ⟨fun h => by have := h.2.2; omega, rfl⟩
    intro _
    refine call_pure [(0, some 1)] (atf_ok ps (f - 1) hb) rfl rfl rfl ?_ ?_ ?_
    · (repeat' first | exact trivial | exact rfl | refine And.intro ?_ ?_)
    · (repeat' first | exact trivial | exact rfl | refine And.intro ?_ ?_)
      exact e1.symm
    intro v hv _
    have hv := hv.uniq a1
    subst hv
    intro _
    refine call_pure [(0, some 1)] (atf_ok ps (f + l.length) hb) rfl rfl rfl ?_ ?_ ?_
    · (repeat' first | exact trivial | exact rfl | refine And.intro ?_ ?_)
    · (repeat' first | exact trivial | exact rfl | refine And.intro ?_ ?_)
      exact e2.symm
    intro v hv _
    have hv := hv.uniq a2
    subst hv
    intro _; refine ⟨fun g => ?_, fun g => ?_⟩
    rotate_left
    · exact absurd (show ((1 : Int) == 1) = false from g) (by decide)
    intro _
    show ((1 : Int) == 1) = true
    rfl
  have g := of_decide_eq_true (show decide ((k : Int) < (l.length : Int)) = true from g)
  have z : 0 + ((k : Nat) : Int).toNat = k := by omega
  have e1 : IntKind.i64.wrap (f + (k : Int)) = f + k := wrapS _ ⟨by omega, by omega⟩
  have a1 : AtR ps (f + k) (.tup [.int .i64 (raw l k), .int .i64 0]) := .inl ⟨hV, by omega, by omega, by rw [eV, eF, show (f + (k : Int) - f).toNat = k by omega]⟩
  intro _
  refine call_pure [(0, some 1)] (atf_ok ps (f + k) hb) rfl rfl rfl ?_ ?_ ?_
  · (repeat' first | exact trivial | exact rfl | refine And.intro ?_ ?_)
  · (repeat' first | exact trivial | exact rfl | refine And.intro ?_ ?_)
    exact e1.symm
  intro v hv _
  have hv := hv.uniq a1
  subst hv
  intro _; refine ⟨fun g => ?_, fun g => ?_⟩
  · exact absurd (show ((0 : Int) != 0) = true from g) (by decide)
  intro _; refine ⟨show 0 ≤ (k : Int) ∧ (k : Int) < (l.length : Int) by omega, ?_⟩
  intro _; refine ⟨show 0 + (k : Int).toNat < l.length by omega, ?_⟩
  intro _; refine ⟨fun g => ?_, fun g => ?_⟩
  · have g : (raw l k != raw l (0 + ((k : Nat) : Int).toNat)) = true := g
    rw [z] at g
    simp at g
  refine ⟨⟨k + 1, by omega⟩, by show l.length - (k + 1) < l.length - k; omega, th [] 3, rfl, rfl, rfl, rfl, rfl, rfl, ?_, ?_⟩
  · (repeat' first | exact trivial | exact rfl | refine And.intro ?_ ?_)
    exact (wrap_nat k (by omega)).symm
  · (repeat' first | exact trivial | exact rfl | refine And.intro ?_ ?_)


theorem walk (w : World) (f : Int) (w_f : (Lit.int .i64 f).wf = true) (v_l : Value) (s_l : Src) (l : List Int) (cap_l : Nat) (hk_l : s_l.ks = [.int .i64]) (ha_l : s_l.ac = .ints l) (hs_l : s_l.lies w) (hn_l : s_l.at_ = none → l.length = 0) (hc_l : l.length ≤ cap_l) (hv_l : v_l = s_l.val cap_l) (hm_l : l.length ≤ maxLen) (w_l : ∀ n ∈ l, (Lit.int .i64 n).wf = true) :
    Calls Try.prog 4 #[.int .i64 f, v_l] w fun e w' => e = .returned (.bool true) ∧ Below w.heap.size w w' := by
  obtain ⟨at_l, ks_l, ac_l⟩ := s_l
  simp only [] at hk_l ha_l
  subst hk_l ha_l
  have h_l : l.length ≤ 9223372036854775807 := by unfold maxLen at hm_l; omega
  have b_f := w_f
  simp [Lit.wf, IntKind.min, IntKind.max, IntKind.signed, IntKind.bits] at b_f
  exact top_run (by kernel_rfl) (by kernel_rfl) (T := []) (fun f hf w => by
      exact (List.not_mem_nil hf).elim) (l := [⟨at_l, [.int .i64], .ints l⟩]) (args := [.int .i64 f, .slc 0 1 0 l.length]) («as» := [.int .i64 f, Src.av 0 cap_l ⟨at_l, [.int .i64], .ints l⟩]) (cargs := [.int .i64 f, v_l]) w
    (fun s h => by
      rcases List.mem_cons.1 h with e | h
      · subst e; exact hs_l
      · exact (List.not_mem_nil h).elim)
    (Cvs.cons mk_int (Cvs.cons (src_cv (s := ⟨at_l, [.int .i64], .ints l⟩) rfl 1 hc_l hn_l) Cvs.nil))
    (by simp only [Go.Vm.convs, Go.Vm.conv]; rw [src_conv (j := 0) (s := ⟨at_l, [.int .i64], .ints l⟩) rfl, hv_l])
    (law4 f l b_f h_l)

set_option maxRecDepth 100000 in
theorem lifted (os : Os) (started : os.Started) (H : Type) (enc : TypeId × Value → H) :
    ReturnsInHanded {} Try.checked os 4 .any (Rows.curveValuesSpec.pre6 enc Try.prog Try.f4 Rows.curveValuesRow.domain false) (Rows.curveValuesSpec.post enc Try.prog Try.f4 false true false false) := by
  refine returnsInHanded_of_change (C := Try.checked) own started (by kernel_rfl) Try.func4
    (ChangeSpec.witness6 (enc := enc) (C := Try.checked) false ⟨#[], #[.int .i64 0, .slice none 0 0], []⟩ 8 (by kernel_rfl) (by kernel_rfl) (by kernel_rfl) (by kernel_rfl)) ?_
  intro W base args ds gs before hval0 hW hcnd _
  have hval : ∀ (j : Nat) t v, Try.f4.params[j]? = some t → args[j]? = some v → Value.okWide Try.prog W .any base t v := hval0
  have hW' := hW
  obtain ⟨p, q, hA0, hV, rfl, hfz, hnd⟩ := hW
  have hA : DataW.TrodAll enc Try.prog W 0 (fun _ => true) true Try.f4.params.toList args.toList ds p := hA0
  rw [Try.params4] at hA hval
  obtain ⟨v0, vs0, d0, ds0, p0, q0, hargs, rfl, rfl, h0, r0⟩ := trodAll_cons hA
  obtain ⟨v1, vs1, d1, ds1, p1, q1, rfl, rfl, rfl, h1, r1⟩ := trodAll_cons r0
  obtain ⟨rfl, rfl, rfl⟩ := trodAll_nil r1
  obtain rfl : args = #[v0, v1] := by cases args; simp_all
  obtain ⟨rfl, rfl⟩ := trodVars_none hV
  obtain ⟨f, rfl, rfl, rfl, w_f⟩ := open_int Try.underlying3 (hval 0 3 v0 rfl rfl) h0
  obtain ⟨s_l, l, cap_l, hk_l, ha_l, hs_l, hn_l, hc_l, hv_l, hm_l, w_l⟩ := Go.Vm2.open_list Try.underlying23 Try.underlying3 (by kernel_rfl) (hval 1 23 v1 rfl rfl) h1
  have hlt1 : ∀ x ∈ p1, x.block < W.heap.size := fun x hx => by simpa using hW'.lt x (by simp [hx])
  clear hA0 hval0
  refine (walk W f w_f v1 s_l l cap_l hk_l ha_l hs_l hn_l hc_l hv_l hm_l w_l).mono fun e W' ⟨he, hg⟩ => ?_
  subst he
  exact ⟨_, rfl, _, _, _, [], _, [], hW', trodAll_cons_mk (shut_bool Try.underlying4 _) trodAll_mk0, (trodAll_cons_mk (shut_int Try.underlying3 w_f) (trodAll_cons_mk (Below.trod laidOut (by kernel_rfl) (of_decide_eq_true (by kernel_rfl)) h1 hg hlt1) trodAll_mk0)), rfl, hg.frame _, fun h => by cases h⟩

theorem over : Rows.curveValuesRow.holds Try.pinned (OpenSpec.ofChange Rows.curveValuesSpec) :=
  OpenClaim.holds_of_wide 4 Try.f4 rfl rfl rfl rfl rfl rfl rfl ⟨rfl, rfl, rfl, rfl, rfl⟩ rfl rfl rfl rfl rfl (by kernel_rfl) Try.func4 (by kernel_rfl)
    (of_decide_eq_true (by kernel_rfl)) (by unfold Func.isWrapper; first | (rw [if_pos (by decide +kernel)]; kernel_rfl) | (rw [if_neg (by decide +kernel)]; exact ⟨rfl, rfl⟩))
    (fun os started H enc _ => lifted os started H enc)

/-- the statement -/
theorem proved : Rows.CurveValuesSaid :=
  over
#print axioms proved
end Go.Proofs.Ytjcfmocpmjeddaa.curveValues
