/-
  CurveLong: whatever the arguments, the law returns true, and its arguments read as before. No conditions.
-/
import Derived.Test.YtjcfmocpmjeddaaRows
import Derived.Test.YtjcfmocpmjeddaaVwOpen2
import Derived.Test.YtjcfmocpmjeddaaVwRules7
import Derived.WalkKit
import Derived.ProofKit
import Derived.OpenShut
import Derived.Carry
import Derived.Test.YtjcfmocpmjeddaaSrtA
import Derived.Test.YtjcfmocpmjeddaaSrtB
import Derived.Test.YtjcfmocpmjeddaaCrvA
namespace Go.Proofs.Ytjcfmocpmjeddaa.curveLong
open Go.ChangeShapes Go.WideShapes Go.ChangeAt Go.RowKit
open Go.Vm (Facts Val Sound)
open Go.Vm2
set_option linter.unusedVariables false
set_option linter.unusedSectionVars false

open Go.Proofs.Ytjcfmocpmjeddaa.crv
theorem own : ownKnob Try.prog.godebug = none := by kernel_rfl
theorem laidOut : laidOutB Try.prog = true := by kernel_rfl
set_option maxRecDepth 100000
set_option maxHeartbeats 8000000 in
theorem law6 (f : Int) (l : List Int) (hf : -9223372036854775808 ≤ f ∧ f ≤ 9223372036854775807) (hl : l.length ≤ 9223372036854775807) : SemF Try.prog 6 [.int .i64 f, .slc 0 1 0 l.length] ⟨1, 1, [(0, .arr [.int .i64] .ro (.ints l))]⟩ (fun v _ => IsTrue v) := by
  refine enter tt_ok Try.func6 (nt := 145) (cd := body Try.f6) rfl rfl rfl rfl ?_
  intro _
  refine call_pure [] (hd_ok) rfl rfl rfl ?_ ?_ ?_
  · (repeat' first | exact trivial | exact rfl | refine And.intro ?_ ?_)
  · (repeat' first | exact trivial | exact rfl | refine And.intro ?_ ?_)
  intro v hv _
  subst hv
  intro _; refine ⟨fun g => ?_, fun g => ?_⟩
  · intro _
    show true = true
    rfl
  have g1 := of_decide_eq_false (show decide ((l.length : Int) > 40) = false from g)
  have ee : ∀ (l : List Int), l.length ≤ 40 → (if 4000 < l.length then (2 : Int) else 1) = 1 := fun l h => if_neg (by omega)
  intro _
  refine call_new [(0, some 0)] (make_ok f l hl hf) rfl rfl rfl rfl ?_ ?_ ?_
  · (repeat' first | exact trivial | exact rfl | refine And.intro ?_ ?_)
  · (repeat' first | exact trivial | exact rfl | refine And.intro ?_ ?_)
  intro v h' hv
  rcases hv with ⟨hM, ps, hS, rfl, rfl⟩ | ⟨hM, hv, rfl⟩
  rotate_left
  · rw [ee l (by omega)] at hv
    subst hv
    refine ⟨[], 1, [], .tup [.nils, .int .i64 1], rfl, rfl, rfl, rfl, rfl, ?_, ?_, ?_⟩
    · (repeat' first | exact trivial | exact rfl | refine And.intro ?_ ?_)
    · (repeat' first | exact trivial | exact rfl | refine And.intro ?_ ?_)
    intro _; refine ⟨fun g => ?_, fun g => ?_⟩
    rotate_left
    · exact absurd (show ((1 : Int) != 0) = false from g) (by decide)
    intro _
    show ((0 : Int) == 0) = true
    rfl
  refine ⟨[(1, some 1)], 2, [(1, .arr PK .grow (.recs ps))], .tup [.grw 1 ps.length, .int .i64 0], rfl, rfl, rfl, rfl, rfl, ?_, ?_, ?_⟩
  · (repeat' first | exact trivial | exact rfl | refine And.intro ?_ ?_)
  · (repeat' first | exact trivial | exact rfl | refine And.intro ?_ ?_)
  obtain ⟨hV, eV, eF⟩ := hS.vd hM
  have m1 := hM.1.1; have hC := hM.1.2.2; have m3 := hM.2.1; have m4 := hM.2.2
  have pl := hS.len
  intro _; refine ⟨fun g => ?_, fun g => ?_⟩
  · exact absurd (show ((0 : Int) != 0) = true from g) (by decide)
  have ew : IntKind.i64.wrap (f + (l.length : Int)) = f + l.length := wrapS _ ⟨by omega, by omega⟩
  intro _
  refine loop2 tt_ok [8, 9] [] 2 (fun x : { x : Nat × Nat // x.1 ≤ l.length ∧ x.2 ≤ ps.length ∧ Spl (f + (x.1 : Nat)) (l.drop x.1) (ps.drop x.2) } => [(8, .int .i64 (f + (x.1.1 : Nat))), (9, .int .i64 (x.1.2 : Nat))]) (fun _ => []) (fun x => ps.length - x.1.2) ⟨(0, 0), Nat.zero_le _, Nat.zero_le _, by simpa using hS⟩ ?_
  intro _
  refine ⟨⟨th [] 2, rfl, rfl, rfl, rfl, rfl, rfl, ?_, ?_⟩, ?_⟩
  · (repeat' first | exact trivial | exact rfl | refine And.intro ?_ ?_)
    all_goals (show f + ((0 : Nat) : Int) = f; omega)
  · (repeat' first | exact trivial | exact rfl | refine And.intro ?_ ?_)
  intro ⟨(p, i), hp, hi, hs⟩
  have hp : p ≤ l.length := hp
  have hi : i ≤ ps.length := hi
  have hs : Spl (f + (p : Nat)) (l.drop p) (ps.drop i) := hs
  intro _; refine ⟨fun g => ?_, fun g => ?_⟩
  rotate_left
  · have g := of_decide_eq_false (show decide ((i : Int) < (ps.length : Int)) = false from g)
    have e : i = ps.length := by omega
    subst e
    rw [List.drop_length] at hs
    have ep : p = l.length := by
      rcases hs.inv with ⟨e, _⟩ | ⟨_, _, _, _, _, _, _, e⟩
      · have := congrArg List.length e; simp at this; omega
      · cases e
    intro _
    show ((f + (p : Nat) : Int) == IntKind.i64.wrap (f + (l.length : Int))) = true
    rw [ew, ep]; simp
  have g := of_decide_eq_true (show decide ((i : Int) < (ps.length : Int)) = true from g)
  rcases hs.inv with ⟨_, e⟩ | ⟨n, a, b, d, rest, hL, hs2, ep⟩
  · have := congrArg List.length e; simp at this; omega
  have gr : ps.getD i [] = pt (f + (p : Nat)) (f + (p : Nat) + (n : Nat)) a b d := by
    have := congrArg (fun q : Rws => q[0]?) ep
    simp only [List.getElem?_drop, Nat.add_zero, List.getElem?_cons_zero] at this
    rw [List.getD_eq_getElem?_getD, this]; rfl
  have dr : ps.drop (i + 1) = rest := by rw [← List.drop_drop, ep]; rfl
  have z : ((i : Nat) : Int).toNat = i := by omega
  have G0 : gx ps ((i : Nat) : Int).toNat 0 = f + (p : Nat) := by rw [z]; unfold gx; rw [gr]; rfl
  have G1 : gx ps ((i : Nat) : Int).toNat 1 = f + (p : Nat) + (n : Nat) := by rw [z]; unfold gx; rw [gr]; rfl
  have G2 : gx ps ((i : Nat) : Int).toNat 2 = a := by rw [z]; unfold gx; rw [gr]; rfl
  have G3 : gx ps ((i : Nat) : Int).toNat 3 = b := by rw [z]; unfold gx; rw [gr]; rfl
  have G4 : gx ps ((i : Nat) : Int).toNat 4 = d := by rw [z]; unfold gx; rw [gr]; rfl
  have n1 := hL.1.1
  have n2 : n ≤ l.length - p := by have := hL.1.2; simpa using this
  have hCd : AllC (l.drop p) := allC_drop hC
  have ld : (l.drop p).length = l.length - p := by simp
  have lt : ((l.drop p).take n).length = n := tk_len (by omega)
  have w0 : IntKind.i64.wrap (f + (p : Nat) - f) = (p : Int) := by rw [wrapS _ ⟨by omega, by omega⟩]; omega
  have w1 : IntKind.i64.wrap (gx ps ((i : Nat) : Int).toNat 1 - f) = ((p + n : Nat) : Int) := by rw [G1, wrapS _ ⟨by omega, by omega⟩]; omega
  have o0 : 0 + (IntKind.i64.wrap (f + (p : Nat) - f)).toNat = p := by rw [w0]; omega
  have N0 : (IntKind.i64.wrap (gx ps ((i : Nat) : Int).toNat 1 - f) - IntKind.i64.wrap (f + (p : Nat) - f)).toNat = n := by rw [w0, w1]; omega
  intro _; refine ⟨show 0 ≤ (i : Int) ∧ (i : Int) < (ps.length : Int) by omega, ?_⟩
  intro _; refine ⟨show (i : Int).toNat < ps.length by omega, ?_⟩
  intro _; refine ⟨fun g => ?_, fun g => ?_⟩
  · have g : (gx ps ((i : Nat) : Int).toNat 0 != f + (p : Nat)) = true := g
    rw [G0] at g
    simp at g
  intro _; refine ⟨show 0 ≤ (i : Int) ∧ (i : Int) < (ps.length : Int) by omega, ?_⟩
  intro _; refine ⟨show (i : Int).toNat < ps.length by omega, ?_⟩
  intro _; refine ⟨fun g => ?_, fun g => ?_⟩
  · have g : decide (gx ps ((i : Nat) : Int).toNat 1 ≤ f + (p : Nat)) = true := g
    rw [G1] at g
    have g := of_decide_eq_true g
    omega
  intro _; refine ⟨show 0 ≤ (i : Int) ∧ (i : Int) < (ps.length : Int) by omega, ?_⟩
  intro _; refine ⟨show (i : Int).toNat < ps.length by omega, ?_⟩
  intro _; refine ⟨fun g => ?_, fun g => ?_⟩
  · have g : decide (gx ps ((i : Nat) : Int).toNat 1 > IntKind.i64.wrap (f + (l.length : Int))) = true := g
    rw [G1, ew] at g
    have g := of_decide_eq_true g
    omega
  intro _; refine ⟨show 0 ≤ (i : Int) ∧ (i : Int) < (ps.length : Int) by omega, ?_⟩
  intro _; refine ⟨show (i : Int).toNat < ps.length by omega, ?_⟩
  intro _; refine ⟨⟨show (0 : Int) ≤ IntKind.i64.wrap (f + (p : Nat) - f) by rw [w0]; omega, show IntKind.i64.wrap (f + (p : Nat) - f) ≤ IntKind.i64.wrap (gx ps ((i : Nat) : Int).toNat 1 - f) by rw [w0, w1]; omega, show IntKind.i64.wrap (gx ps ((i : Nat) : Int).toNat 1 - f) ≤ (l.length : Int) by rw [w1]; omega⟩, ?_⟩
  have hc := Fit_ok ((l.drop p).take n) (by omega)
  rw [lt] at hc
  have hc' : SemF Try.prog 26 [.slc 0 1 0 (IntKind.i64.wrap (gx ps ((i : Nat) : Int).toNat 1 - f) - IntKind.i64.wrap (f + (p : Nat) - f)).toNat] ⟨1, 1, DV ((l.drop p).take n)⟩ (fun v _ => FitR ((l.drop p).take n) v ∧ nameless v = true) := by rw [N0]; exact hc
  intro _
  refine call_sub hc' (show (l.drop p).take n = (l.drop (0 + (IntKind.i64.wrap (f + (p : Nat) - f)).toNat)).take (IntKind.i64.wrap (gx ps ((i : Nat) : Int).toNat 1 - f) - IntKind.i64.wrap (f + (p : Nat) - f)).toNat from by rw [o0, N0]) (show 0 + (IntKind.i64.wrap (f + (p : Nat) - f)).toNat + (IntKind.i64.wrap (gx ps ((i : Nat) : Int).toNat 1 - f) - IntKind.i64.wrap (f + (p : Nat) - f)).toNat ≤ l.length from by rw [o0, N0]; omega) rfl rfl ?_
  intro v hv _
  have hv := FitR.uniq hv hL.2.1
  subst hv
  intro _; refine ⟨show 0 ≤ (i : Int) ∧ (i : Int) < (ps.length : Int) by omega, ?_⟩
  intro _; refine ⟨show (i : Int).toNat < ps.length by omega, ?_⟩
  intro _; refine ⟨fun g => ?_, fun g => ?_⟩
  · exact absurd (show ((0 : Int) != 0) = true from g) (by decide)
  intro _; refine ⟨show 0 ≤ (i : Int) ∧ (i : Int) < (ps.length : Int) by omega, ?_⟩
  intro _; refine ⟨show (i : Int).toNat < ps.length by omega, ?_⟩
  intro _; refine ⟨by kernel_rfl, ?_⟩
  intro _; refine ⟨fun g => ?_, fun g => ?_⟩
  · have g : (!(a == gx ps ((i : Nat) : Int).toNat 2 && (b == gx ps ((i : Nat) : Int).toNat 3 && d == gx ps ((i : Nat) : Int).toNat 4))) = true := g
    rw [G2, G3, G4] at g
    simp at g
  intro _; refine ⟨fun g => ?_, fun g => ?_⟩
  · have g : (gx ps ((i : Nat) : Int).toNat 1 == IntKind.i64.wrap (f + (l.length : Int))) = true := g
    refine ⟨⟨(p + n, i + 1), show p + n ≤ l.length by omega, show i + 1 ≤ ps.length by omega, ?_⟩, by show ps.length - (i + 1) < ps.length - i; omega, th [] 2, rfl, rfl, rfl, rfl, rfl, rfl, ?_, ?_⟩
    · rw [dr, ← List.drop_drop]
      have e : f + ((p + n : Nat) : Int) = f + (p : Nat) + (n : Nat) := by omega
      show Spl (f + ((p + n : Nat) : Int)) _ _
      rw [e]; exact hs2
    · (repeat' first | exact trivial | exact rfl | refine And.intro ?_ ?_)
      · show f + ((p + n : Nat) : Int) = gx ps ((i : Nat) : Int).toNat 1
        rw [G1]; omega
      · exact (wrap_nat i (by omega)).symm
    · (repeat' first | exact trivial | exact rfl | refine And.intro ?_ ?_)
  have g3 : (gx ps ((i : Nat) : Int).toNat 1 == IntKind.i64.wrap (f + (l.length : Int))) = false := g
  rw [G1, ew] at g3
  have g3 := beq_eq_false_iff_ne.1 g3
  have w2 : IntKind.i64.wrap (gx ps ((i : Nat) : Int).toNat 0 - f) = (p : Int) := by rw [G0]; exact w0
  have w3 : IntKind.i64.wrap (IntKind.i64.wrap (gx ps ((i : Nat) : Int).toNat 1 - f) + 1) = ((p + n + 1 : Nat) : Int) := by rw [w1]; exact wrap_nat (p + n) (by omega)
  have o1 : 0 + (IntKind.i64.wrap (gx ps ((i : Nat) : Int).toNat 0 - f)).toNat = p := by rw [w2]; omega
  have N1 : (IntKind.i64.wrap (IntKind.i64.wrap (gx ps ((i : Nat) : Int).toNat 1 - f) + 1) - IntKind.i64.wrap (gx ps ((i : Nat) : Int).toNat 0 - f)).toNat = n + 1 := by rw [w2, w3]; omega
  have lt1 : ((l.drop p).take (n + 1)).length = n + 1 := tk_len (by omega)
  intro _; refine ⟨show 0 ≤ (i : Int) ∧ (i : Int) < (ps.length : Int) by omega, ?_⟩
  intro _; refine ⟨show (i : Int).toNat < ps.length by omega, ?_⟩
  intro _; refine ⟨⟨show (0 : Int) ≤ IntKind.i64.wrap (gx ps ((i : Nat) : Int).toNat 0 - f) by rw [w2]; omega, show IntKind.i64.wrap (gx ps ((i : Nat) : Int).toNat 0 - f) ≤ IntKind.i64.wrap (IntKind.i64.wrap (gx ps ((i : Nat) : Int).toNat 1 - f) + 1) by rw [w2, w3]; omega, show IntKind.i64.wrap (IntKind.i64.wrap (gx ps ((i : Nat) : Int).toNat 1 - f) + 1) ≤ (l.length : Int) by rw [w3]; omega⟩, ?_⟩
  have hc := Fit_ok ((l.drop p).take (n + 1)) (by omega)
  rw [lt1] at hc
  have hc' : SemF Try.prog 26 [.slc 0 1 0 (IntKind.i64.wrap (IntKind.i64.wrap (gx ps ((i : Nat) : Int).toNat 1 - f) + 1) - IntKind.i64.wrap (gx ps ((i : Nat) : Int).toNat 0 - f)).toNat] ⟨1, 1, DV ((l.drop p).take (n + 1))⟩ (fun v _ => FitR ((l.drop p).take (n + 1)) v ∧ nameless v = true) := by rw [N1]; exact hc
  intro _
  refine call_sub hc' (show (l.drop p).take (n + 1) = (l.drop (0 + (IntKind.i64.wrap (gx ps ((i : Nat) : Int).toNat 0 - f)).toNat)).take (IntKind.i64.wrap (IntKind.i64.wrap (gx ps ((i : Nat) : Int).toNat 1 - f) + 1) - IntKind.i64.wrap (gx ps ((i : Nat) : Int).toNat 0 - f)).toNat from by rw [o1, N1]) (show 0 + (IntKind.i64.wrap (gx ps ((i : Nat) : Int).toNat 0 - f)).toNat + (IntKind.i64.wrap (IntKind.i64.wrap (gx ps ((i : Nat) : Int).toNat 1 - f) + 1) - IntKind.i64.wrap (gx ps ((i : Nat) : Int).toNat 0 - f)).toNat ≤ l.length from by rw [o1, N1]; omega) rfl rfl ?_
  intro v hv _
  rcases fit_cases (allC_take hCd (by omega)) (by omega) (by omega) hv with ⟨a', b', d', _, hq⟩ | ⟨rfl, _⟩
  · exact absurd (hq.fx (allC_take hCd (by omega)) (by omega) (by omega)) (hL.2.2 (by omega))
  intro _; refine ⟨fun g => ?_, fun g => ?_⟩
  · exact absurd (show ((0 : Int) != 0) = true from g) (by decide)
  refine ⟨⟨(p + n, i + 1), show p + n ≤ l.length by omega, show i + 1 ≤ ps.length by omega, ?_⟩, by show ps.length - (i + 1) < ps.length - i; omega, th [] 2, rfl, rfl, rfl, rfl, rfl, rfl, ?_, ?_⟩
  · rw [dr, ← List.drop_drop]
    have e : f + ((p + n : Nat) : Int) = f + (p : Nat) + (n : Nat) := by omega
    show Spl (f + ((p + n : Nat) : Int)) _ _
    rw [e]; exact hs2
  · (repeat' first | exact trivial | exact rfl | refine And.intro ?_ ?_)
    · show f + ((p + n : Nat) : Int) = gx ps ((i : Nat) : Int).toNat 1
      rw [G1]; omega
    · exact (wrap_nat i (by omega)).symm
  · (repeat' first | exact trivial | exact rfl | refine And.intro ?_ ?_)

theorem walk (w : World) (f : Int) (w_f : (Lit.int .i64 f).wf = true) (v_l : Value) (s_l : Src) (l : List Int) (cap_l : Nat) (hk_l : s_l.ks = [.int .i64]) (ha_l : s_l.ac = .ints l) (hs_l : s_l.lies w) (hn_l : s_l.at_ = none → l.length = 0) (hc_l : l.length ≤ cap_l) (hv_l : v_l = s_l.val cap_l) (hm_l : l.length ≤ maxLen) (w_l : ∀ n ∈ l, (Lit.int .i64 n).wf = true) :
    Calls Try.prog 6 #[.int .i64 f, v_l] w fun e w' => e = .returned (.bool true) ∧ Below w.heap.size w w' := by
  obtain ⟨at_l, ks_l, ac_l⟩ := s_l
  simp only [] at hk_l ha_l
  subst hk_l ha_l
  have h_l : l.length ≤ 9223372036854775807 := by unfold maxLen at hm_l; omega
  have b_f := w_f
  simp [Lit.wf, IntKind.min, IntKind.max, IntKind.signed, IntKind.bits] at b_f
  exact top_run (by kernel_rfl) (by kernel_rfl) (T := []) (fun f hf w => by
      exact (List.not_mem_nil hf).elim) (l := [⟨at_l, [.int .i64], .ints l⟩]) (args := [.int .i64 f, .slc 0 1 0 l.length]) («as» := [.int .i64 f, Src.av 0 cap_l ⟨at_l, [.int .i64], .ints l⟩]) (cargs := [.int .i64 f, v_l]) w
    (fun s h => by
      rcases List.mem_cons.1 h with e | h
      · subst e; exact hs_l
      · exact (List.not_mem_nil h).elim)
    (Cvs.cons mk_int (Cvs.cons (src_cv (s := ⟨at_l, [.int .i64], .ints l⟩) rfl 1 hc_l hn_l) Cvs.nil))
    (by simp only [Go.Vm.convs, Go.Vm.conv]; rw [src_conv (j := 0) (s := ⟨at_l, [.int .i64], .ints l⟩) rfl, hv_l])
    (law6 f l b_f h_l)

set_option maxRecDepth 100000 in
theorem lifted (os : Os) (started : os.Started) (H : Type) (enc : TypeId × Value → H) :
    ReturnsInHanded {} Try.checked os 6 .any (Rows.curveLongSpec.pre6 enc Try.prog Try.f6 Rows.curveLongRow.domain false) (Rows.curveLongSpec.post enc Try.prog Try.f6 false true false false) := by
  refine returnsInHanded_of_change (C := Try.checked) own started (by kernel_rfl) Try.func6
    (ChangeSpec.witness6 (enc := enc) (C := Try.checked) false ⟨#[], #[.int .i64 0, .slice none 0 0], []⟩ 8 (by kernel_rfl) (by kernel_rfl) (by kernel_rfl) (by kernel_rfl)) ?_
  intro W base args ds gs before hval0 hW hcnd _
  have hval : ∀ (j : Nat) t v, Try.f6.params[j]? = some t → args[j]? = some v → Value.okWide Try.prog W .any base t v := hval0
  have hW' := hW
  obtain ⟨p, q, hA0, hV, rfl, hfz, hnd⟩ := hW
  have hA : DataW.TrodAll enc Try.prog W 0 (fun _ => true) true Try.f6.params.toList args.toList ds p := hA0
  rw [Try.params6] at hA hval
  obtain ⟨v0, vs0, d0, ds0, p0, q0, hargs, rfl, rfl, h0, r0⟩ := trodAll_cons hA
  obtain ⟨v1, vs1, d1, ds1, p1, q1, rfl, rfl, rfl, h1, r1⟩ := trodAll_cons r0
  obtain ⟨rfl, rfl, rfl⟩ := trodAll_nil r1
  obtain rfl : args = #[v0, v1] := by cases args; simp_all
  obtain ⟨rfl, rfl⟩ := trodVars_none hV
  obtain ⟨f, rfl, rfl, rfl, w_f⟩ := open_int Try.underlying3 (hval 0 3 v0 rfl rfl) h0
  obtain ⟨s_l, l, cap_l, hk_l, ha_l, hs_l, hn_l, hc_l, hv_l, hm_l, w_l⟩ := Go.Vm2.open_list Try.underlying23 Try.underlying3 (by kernel_rfl) (hval 1 23 v1 rfl rfl) h1
  have hlt1 : ∀ x ∈ p1, x.block < W.heap.size := fun x hx => by simpa using hW'.lt x (by simp [hx])
  clear hA0 hval0
  refine (walk W f w_f v1 s_l l cap_l hk_l ha_l hs_l hn_l hc_l hv_l hm_l w_l).mono fun e W' ⟨he, hg⟩ => ?_
  subst he
  exact ⟨_, rfl, _, _, _, [], _, [], hW', trodAll_cons_mk (shut_bool Try.underlying4 _) trodAll_mk0, (trodAll_cons_mk (shut_int Try.underlying3 w_f) (trodAll_cons_mk (Below.trod laidOut (by kernel_rfl) (of_decide_eq_true (by kernel_rfl)) h1 hg hlt1) trodAll_mk0)), rfl, hg.frame _, fun h => by cases h⟩

theorem over : Rows.curveLongRow.holds Try.pinned (OpenSpec.ofChange Rows.curveLongSpec) :=
  OpenClaim.holds_of_wide 6 Try.f6 rfl rfl rfl rfl rfl rfl rfl ⟨rfl, rfl, rfl, rfl, rfl⟩ rfl rfl rfl rfl rfl (by kernel_rfl) Try.func6 (by kernel_rfl)
    (of_decide_eq_true (by kernel_rfl)) (by unfold Func.isWrapper; first | (rw [if_pos (by decide +kernel)]; kernel_rfl) | (rw [if_neg (by decide +kernel)]; exact ⟨rfl, rfl⟩))
    (fun os started H enc _ => lifted os started H enc)

/-- the statement -/
theorem proved : Rows.CurveLongSaid :=
  over
#print axioms proved
end Go.Proofs.Ytjcfmocpmjeddaa.curveLong
