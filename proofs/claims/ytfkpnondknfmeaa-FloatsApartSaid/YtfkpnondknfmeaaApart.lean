/-
  FloatsApart: whatever the arguments, the law returns true, and its arguments read as before. No conditions.
-/
import Derived.Test.YtfkpnondknfmeaaRows
import Derived.Test.YtfkpnondknfmeaaVwOpen2
import Derived.Test.YtfkpnondknfmeaaVwRules7
import Derived.Test.YtfkpnondknfmeaaVmFast3
import Derived.WalkKit
import Derived.ProofKit
import Derived.OpenShut
import Derived.Carry
import Derived.Test.YtfkpnondknfmeaaSrtA
import Derived.Test.YtfkpnondknfmeaaSrtB
import Derived.Test.YtfkpnondknfmeaaPlcA
namespace Go.Proofs.Ytfkpnondknfmeaa.floatsApart
open Go.ChangeShapes Go.WideShapes Go.ChangeAt Go.RowKit
open Go.Vm (Facts Val Sound)
open Go.Vm2
set_option linter.unusedVariables false
set_option linter.unusedSectionVars false

open Go.Proofs.Ytfkpnondknfmeaa.floatsApart
theorem own : ownKnob Try.prog.godebug = none := by kernel_rfl
theorem laidOut : laidOutB Try.prog = true := by kernel_rfl
set_option maxRecDepth 100000
theorem pbw {L : Rows} (h : ∀ n ∈ L, rowWf [.int .u8, .int .u16, .int .u16, .int .u16] n) : Pb L := by
  intro i hi
  have hm : L.getD i [] ∈ L := by
    rw [List.getD_eq_getElem?_getD, List.getElem?_eq_getElem hi]; exact List.getElem_mem hi
  obtain ⟨a, ea, wa⟩ := (h _ hm).2 0 (.int .u8) rfl
  obtain ⟨b, eb, wb⟩ := (h _ hm).2 1 (.int .u16) rfl
  obtain ⟨c, ec, wc⟩ := (h _ hm).2 2 (.int .u16) rfl
  obtain ⟨d, ed, wd⟩ := (h _ hm).2 3 (.int .u16) rfl
  simp [Lit.wf, IntKind.min, IntKind.max, IntKind.signed, IntKind.bits] at wa wb wc wd
  unfold qs qy qw qh
  rw [ea, eb, ec, ed]
  exact ⟨⟨by show 0 ≤ a; omega, by show a ≤ 255; omega⟩, ⟨by show 0 ≤ b; omega, by show b ≤ 65535; omega⟩, ⟨by show 0 ≤ c; omega, by show c ≤ 65535; omega⟩, ⟨by show 0 ≤ d; omega, by show d ≤ 65535; omega⟩⟩
set_option maxHeartbeats 4000000 in
theorem law4 (L : Rows) (W : Int) (hl : List.length L ≤ 9223372036854775807) (hL : Pb L) (hW : 0 ≤ W ∧ W ≤ 65535) : SemF Try.prog 4 [.slc 0 4 0 L.length, .int .u16 W] ⟨1, 1, [(0, .arr [.int .u8, .int .u16, .int .u16, .int .u16] .ro (.recs L))]⟩ (fun v _ => IsTrue v) := by
  refine enter tt_ok Try.func4 (nt := 132) (cd := body Try.f4) rfl rfl rfl rfl ?_
  intro _
  refine head_ok rfl Try.func9 (cd := body Try.f9) rfl ?_
  intro _; refine ⟨fun g => ?_, fun g => ?_⟩
  · intro _
    show true = true
    rfl
  have g1 := of_decide_eq_false (show decide ((L.length : Int) > 20) = false from g)
  have h20 : L.length ≤ 20 := by omega
  have eW : W = IntKind.i64.wrap W := (wrapS _ ⟨by omega, by omega⟩).symm
  have gd := Gd.all false hL hW h20 L.length (Nat.le_refl _)
  have eln := gd.len
  intro _
  refine call_new [(0, some 0)] (placed_ok L W false hL hW h20) rfl rfl rfl rfl ?_ ?_ ?_
  · (repeat' first | exact trivial | exact rfl | refine And.intro ?_ ?_)
  · (repeat' first | exact trivial | exact rfl | refine And.intro ?_ ?_)
    exact eW
  intro v h' hv
  obtain ⟨rfl, rfl⟩ := hv
  refine ⟨[(1, some 1)], 2, [(1, .arr [.int .i64, .int .i64, .int .i64, .int .i64, .int .i64] .grow (.recs (pls L W false L.length)))], .tup [.grw 1 (pls L W false L.length).length, .bool true], rfl, rfl, rfl, rfl, rfl, ?_, ?_, ?_⟩
  · (repeat' first | exact trivial | exact rfl | refine And.intro ?_ ?_)
  · (repeat' first | exact trivial | exact rfl | refine And.intro ?_ ?_)
  intro _
  refine call_pure [(0, some 1)] (valid_ok (pls L W false L.length) W (by omega)) rfl rfl rfl ?_ ?_ ?_
  · (repeat' first | exact trivial | exact rfl | refine And.intro ?_ ?_)
  · (repeat' first | exact trivial | exact rfl | refine And.intro ?_ ?_)
    exact eW
  intro v hv _
  subst hv
  have hV := gd.vd h20 hW
  intro _; refine ⟨fun g => ?_, fun g => ?_⟩
  · exfalso
    have g : (!decide (Vd (pls L W false L.length) W)) = true := g
    rw [decide_eq_true hV] at g; cases g
  intro _
  obtain ⟨p, hp⟩ : ∃ p, p = pls L W false L.length := ⟨_, rfl⟩
  have aY := fun (i : Nat) (hi : i < L.length) => ap_y hL hW h20 (m := false) hi
  have aU := fun (i k : Nat) (hi : i < L.length) (hk : k < i) => ap_up hL hW h20 (m := false) hi hk
  have aN := fun (i k : Nat) (hi : i < L.length) (hk : k < i) => ap_no hL hW h20 (m := false) hi hk
  have aI := gd.inw
  rw [← hp] at aY aU aN aI hV eln
  refine loop2 tt_ok [9] [] 2 (fun i : { i : Nat // i ≤ L.length } => [(9, .int .i64 (i.1 : Nat))]) (fun _ => []) (fun i => L.length - i.1) ⟨0, by omega⟩ ?_
  intro _
  refine ⟨⟨th [] 2, rfl, rfl, rfl, rfl, rfl, rfl, ?_, ?_⟩, ?_⟩
  · (repeat' first | exact trivial | exact rfl | refine And.intro ?_ ?_)
  · (repeat' first | exact trivial | exact rfl | refine And.intro ?_ ?_)
  intro ⟨i, hi⟩
  rw [← hp]
  intro _; refine ⟨fun g => ?_, fun g => ?_⟩
  rotate_left
  · intro _
    show true = true
    rfl
  have hil := of_decide_eq_true (show decide ((i : Int) < (p.length : Int)) = true from g)
  have hin : i < L.length := by omega
  obtain ⟨c1, c2⟩ := aI i hin
  obtain ⟨f0, f1, f2, f3, f4⟩ := hV.2 i (by omega)
  obtain ⟨b1, b2, b3, b4⟩ := hL i hin
  have z : 0 + i = i := Nat.zero_add i
  intro _; refine ⟨show 0 ≤ (i : Int) ∧ (i : Int) < (p.length : Int) by omega, ?_⟩
  intro _; refine ⟨show (i : Int).toNat < p.length by omega, ?_⟩
  intro _; refine ⟨fun g => ?_, fun g => ?_⟩
  · exfalso
    have g := of_decide_eq_true (show decide (fx p i < 0) = true from g)
    omega
  intro _; refine ⟨fun g => ?_, fun g => ?_⟩
  · exfalso
    have g := of_decide_eq_true (show decide (IntKind.i64.wrap (fx p i + fw p i) > IntKind.i64.wrap W) = true from g)
    rw [wrapS _ ⟨by omega, by omega⟩, ← eW] at g
    omega
  intro _; refine ⟨show 0 ≤ (i : Int) ∧ (i : Int) < (L.length : Int) by omega, ?_⟩
  intro _; refine ⟨show 0 + (i : Int).toNat < L.length by omega, ?_⟩
  intro _; refine ⟨fun g => ?_, fun g => ?_⟩
  · exfalso
    have g := of_decide_eq_true (show decide (fy p i < IntKind.i64.wrap (qy L (0 + i))) = true from g)
    rw [z, wrapS _ ⟨by omega, by omega⟩] at g
    have := aY i hin
    omega
  intro _; refine ⟨fun g => ?_, fun g => ?_⟩
  · have hi0 := of_decide_eq_true (show decide ((i : Int) > 0) = true from g)
    have e1 : IntKind.i64.wrap ((i : Int) - 1) = ((i - 1 : Nat) : Int) := by rw [wrapS _ ⟨by omega, by omega⟩]; omega
    intro _; refine ⟨show 0 ≤ IntKind.i64.wrap ((i : Int) - 1) ∧ IntKind.i64.wrap ((i : Int) - 1) < (p.length : Int) by omega, ?_⟩
    intro _; refine ⟨show (IntKind.i64.wrap ((i : Int) - 1)).toNat < p.length by omega, ?_⟩
    intro _; refine ⟨by kernel_rfl, ?_⟩
    intro _; refine ⟨fun g => ?_, fun g => ?_⟩
    · exfalso
      have g := of_decide_eq_true (show decide (fy p i < fy p (IntKind.i64.wrap ((i : Int) - 1)).toNat) = true from g)
      rw [e1] at g
      have := aU i (i - 1) hin (by omega)
      have g : fy p i < fy p (i - 1) := g
      omega
    intro _
    refine loop2 tt_ok [11] [] 3 (fun k : { k : Nat // k ≤ i } => [(11, .int .i64 (k.1 : Nat))]) (fun _ => []) (fun k => i - k.1) ⟨0, by omega⟩ ?_
    intro _
    refine ⟨⟨th [] 3, rfl, rfl, rfl, rfl, rfl, rfl, ?_, ?_⟩, ?_⟩
    · (repeat' first | exact trivial | exact rfl | refine And.intro ?_ ?_)
    · (repeat' first | exact trivial | exact rfl | refine And.intro ?_ ?_)
    intro ⟨k, hk⟩
    intro _; refine ⟨fun g => ?_, fun g => ?_⟩
    rotate_left
    · refine ⟨⟨i + 1, by omega⟩, by show L.length - (i + 1) < L.length - i; omega, th [] 2, rfl, rfl, rfl, rfl, rfl, rfl, ?_, ?_⟩
      · (repeat' first | exact trivial | exact rfl | refine And.intro ?_ ?_)
        exact (wrap_nat i (by omega)).symm
      · (repeat' first | exact trivial | exact rfl | refine And.intro ?_ ?_)
    have hki := of_decide_eq_true (show decide ((k : Int) < (i : Int)) = true from g)
    have hki : k < i := by omega
    obtain ⟨d1, d2⟩ := aI k (by omega)
    obtain ⟨e0, e1, e2, e3, e4⟩ := hV.2 k (by omega)
    intro _; refine ⟨show 0 ≤ (k : Int) ∧ (k : Int) < (p.length : Int) by omega, ?_⟩
    intro _; refine ⟨show (k : Int).toNat < p.length by omega, ?_⟩
    intro _; refine ⟨fun g => ?_, fun g => ?_⟩
    · have gx := of_decide_eq_true (show decide (max (fx p i) (fx p k) < min (IntKind.i64.wrap (fx p i + fw p i)) (IntKind.i64.wrap (fx p k + fw p k))) = true from g)
      rw [wrapS _ ⟨by omega, by omega⟩, wrapS _ ⟨by omega, by omega⟩] at gx
      intro _; refine ⟨fun g => ?_, fun g => ?_⟩
      · exfalso
        have gy := of_decide_eq_true (show decide (max (fy p i) (fy p k) < min (IntKind.i64.wrap (fy p i + fh p i)) (IntKind.i64.wrap (fy p k + fh p k))) = true from g)
        rw [wrapS _ ⟨by omega, by omega⟩, wrapS _ ⟨by omega, by omega⟩] at gy
        exact aN i k hin hki gx gy
      refine ⟨⟨k + 1, by omega⟩, by show i - (k + 1) < i - k; omega, th [] 3, rfl, rfl, rfl, rfl, rfl, rfl, ?_, ?_⟩
      · (repeat' first | exact trivial | exact rfl | refine And.intro ?_ ?_)
        exact (wrap_nat k (by omega)).symm
      · (repeat' first | exact trivial | exact rfl | refine And.intro ?_ ?_)
    refine ⟨⟨k + 1, by omega⟩, by show i - (k + 1) < i - k; omega, th [] 3, rfl, rfl, rfl, rfl, rfl, rfl, ?_, ?_⟩
    · (repeat' first | exact trivial | exact rfl | refine And.intro ?_ ?_)
      exact (wrap_nat k (by omega)).symm
    · (repeat' first | exact trivial | exact rfl | refine And.intro ?_ ?_)
  intro _; refine ⟨by kernel_rfl, ?_⟩
  intro _
  refine loop2 tt_ok [11] [] 3 (fun k : { k : Nat // k ≤ i } => [(11, .int .i64 (k.1 : Nat))]) (fun _ => []) (fun k => i - k.1) ⟨0, by omega⟩ ?_
  intro _
  refine ⟨⟨th [] 3, rfl, rfl, rfl, rfl, rfl, rfl, ?_, ?_⟩, ?_⟩
  · (repeat' first | exact trivial | exact rfl | refine And.intro ?_ ?_)
  · (repeat' first | exact trivial | exact rfl | refine And.intro ?_ ?_)
  intro ⟨k, hk⟩
  intro _; refine ⟨fun g => ?_, fun g => ?_⟩
  rotate_left
  · refine ⟨⟨i + 1, by omega⟩, by show L.length - (i + 1) < L.length - i; omega, th [] 2, rfl, rfl, rfl, rfl, rfl, rfl, ?_, ?_⟩
    · (repeat' first | exact trivial | exact rfl | refine And.intro ?_ ?_)
      exact (wrap_nat i (by omega)).symm
    · (repeat' first | exact trivial | exact rfl | refine And.intro ?_ ?_)
  have hki := of_decide_eq_true (show decide ((k : Int) < (i : Int)) = true from g)
  have hki : k < i := by omega
  obtain ⟨d1, d2⟩ := aI k (by omega)
  obtain ⟨e0, e1, e2, e3, e4⟩ := hV.2 k (by omega)
  intro _; refine ⟨show 0 ≤ (k : Int) ∧ (k : Int) < (p.length : Int) by omega, ?_⟩
  intro _; refine ⟨show (k : Int).toNat < p.length by omega, ?_⟩
  intro _; refine ⟨fun g => ?_, fun g => ?_⟩
  · have gx := of_decide_eq_true (show decide (max (fx p i) (fx p k) < min (IntKind.i64.wrap (fx p i + fw p i)) (IntKind.i64.wrap (fx p k + fw p k))) = true from g)
    rw [wrapS _ ⟨by omega, by omega⟩, wrapS _ ⟨by omega, by omega⟩] at gx
    intro _; refine ⟨fun g => ?_, fun g => ?_⟩
    · exfalso
      have gy := of_decide_eq_true (show decide (max (fy p i) (fy p k) < min (IntKind.i64.wrap (fy p i + fh p i)) (IntKind.i64.wrap (fy p k + fh p k))) = true from g)
      rw [wrapS _ ⟨by omega, by omega⟩, wrapS _ ⟨by omega, by omega⟩] at gy
      exact aN i k hin hki gx gy
    refine ⟨⟨k + 1, by omega⟩, by show i - (k + 1) < i - k; omega, th [] 3, rfl, rfl, rfl, rfl, rfl, rfl, ?_, ?_⟩
    · (repeat' first | exact trivial | exact rfl | refine And.intro ?_ ?_)
      exact (wrap_nat k (by omega)).symm
    · (repeat' first | exact trivial | exact rfl | refine And.intro ?_ ?_)
  refine ⟨⟨k + 1, by omega⟩, by show i - (k + 1) < i - k; omega, th [] 3, rfl, rfl, rfl, rfl, rfl, rfl, ?_, ?_⟩
  · (repeat' first | exact trivial | exact rfl | refine And.intro ?_ ?_)
    exact (wrap_nat k (by omega)).symm
  · (repeat' first | exact trivial | exact rfl | refine And.intro ?_ ?_)

theorem walk (w : World) (v_q0 : Value) (s_q0 : Src) (q0 : List (List Go.Vm2.D)) (cap_q0 : Nat) (hk_q0 : s_q0.ks = [.int .u8, .int .u16, .int .u16, .int .u16]) (ha_q0 : s_q0.ac = .recs q0) (hs_q0 : s_q0.lies w) (hn_q0 : s_q0.at_ = none → q0.length = 0) (hc_q0 : q0.length ≤ cap_q0) (hv_q0 : v_q0 = s_q0.val cap_q0) (hm_q0 : q0.length ≤ maxLen) (w_q0 : ∀ n ∈ q0, rowWf [.int .u8, .int .u16, .int .u16, .int .u16] n) (wd : Int) (w_wd : (Lit.int .u16 wd).wf = true) :
    Calls Try.prog 4 #[v_q0, .int .u16 wd] w fun e w' => e = .returned (.bool true) ∧ Below w.heap.size w w' := by
  obtain ⟨at_q0, ks_q0, ac_q0⟩ := s_q0
  simp only [] at hk_q0 ha_q0
  subst hk_q0 ha_q0
  have h_q0 : q0.length ≤ 9223372036854775807 := by unfold maxLen at hm_q0; omega
  have b_wd := w_wd
  simp [Lit.wf, IntKind.min, IntKind.max, IntKind.signed, IntKind.bits] at b_wd
  exact top_run (by kernel_rfl) (by kernel_rfl) (T := [9]) (fun f hf w => by
      rcases List.mem_cons.1 hf with e | e
      · subst e; exact head w
      · exact (List.not_mem_nil e).elim) (l := [⟨at_q0, [.int .u8, .int .u16, .int .u16, .int .u16], .recs q0⟩]) (args := [.slc 0 4 0 q0.length, .int .u16 wd]) («as» := [Src.av 0 cap_q0 ⟨at_q0, [.int .u8, .int .u16, .int .u16, .int .u16], .recs q0⟩, .int .u16 wd]) (cargs := [v_q0, .int .u16 wd]) w
    (fun s h => by
      rcases List.mem_cons.1 h with e | h
      · subst e; exact hs_q0
      · exact (List.not_mem_nil h).elim)
    (Cvs.cons (src_cv (s := ⟨at_q0, [.int .u8, .int .u16, .int .u16, .int .u16], .recs q0⟩) rfl 4 hc_q0 hn_q0) (Cvs.cons mk_int Cvs.nil))
    (by simp only [Go.Vm.convs, Go.Vm.conv]; rw [src_conv (j := 0) (s := ⟨at_q0, [.int .u8, .int .u16, .int .u16, .int .u16], .recs q0⟩) rfl, hv_q0])
    (law4 q0 wd h_q0 (pbw w_q0) (by omega))

set_option maxRecDepth 100000 in
theorem lifted (os : Os) (started : os.Started) (H : Type) (enc : TypeId × Value → H) :
    ReturnsInHanded {} Try.checked os 4 .any (Rows.floatsApartSpec.pre6 enc Try.prog Try.f4 Rows.floatsApartRow.domain false) (Rows.floatsApartSpec.post enc Try.prog Try.f4 false true false false) := by
  refine returnsInHanded_of_change (C := Try.checked) own started (by kernel_rfl) Try.func4
    (ChangeSpec.witness6 (enc := enc) (C := Try.checked) false ⟨#[], #[.slice none 0 0, .int .u16 0], []⟩ 8 (by kernel_rfl) (by kernel_rfl) (by kernel_rfl) (by kernel_rfl)) ?_
  intro W base args ds gs before hval0 hW hcnd _
  have hval : ∀ (j : Nat) t v, Try.f4.params[j]? = some t → args[j]? = some v → Value.okWide Try.prog W .any base t v := hval0
  have hW' := hW
  obtain ⟨p, q, hA0, hV, rfl, hfz, hnd⟩ := hW
  have hA : DataW.TrodAll enc Try.prog W 0 (fun _ => true) true Try.f4.params.toList args.toList ds p := hA0
  rw [Try.params4] at hA hval
  obtain ⟨v0, vs0, d0, ds0, p0, q0, hargs, rfl, rfl, h0, r0⟩ := trodAll_cons hA
  obtain ⟨v1, vs1, d1, ds1, p1, q1, rfl, rfl, rfl, h1, r1⟩ := trodAll_cons r0
  obtain ⟨rfl, rfl, rfl⟩ := trodAll_nil r1
  obtain rfl : args = #[v0, v1] := by cases args; simp_all
  obtain ⟨rfl, rfl⟩ := trodVars_none hV
  obtain ⟨s_q0, q0, cap_q0, hk_q0, ha_q0, hs_q0, hn_q0, hc_q0, hv_q0, hm_q0, w_q0⟩ := Go.Vm2.open_recs (ks := [.int .u8, .int .u16, .int .u16, .int .u16]) Try.underlying36 Try.underlying43 (by kernel_rfl) (by simp) (by kernel_rfl) (hval 0 36 v0 rfl rfl) h0
  have hlt0 : ∀ x ∈ p0, x.block < W.heap.size := fun x hx => by simpa using hW'.lt x (by simp [hx])
  obtain ⟨wd, rfl, rfl, rfl, w_wd⟩ := open_int Try.underlying37 (hval 1 37 v1 rfl rfl) h1
  clear hA0 hval0
  refine (walk W v0 s_q0 q0 cap_q0 hk_q0 ha_q0 hs_q0 hn_q0 hc_q0 hv_q0 hm_q0 w_q0 wd w_wd).mono fun e W' ⟨he, hg⟩ => ?_
  subst he
  exact ⟨_, rfl, _, _, _, [], _, [], hW', trodAll_cons_mk (shut_bool Try.underlying4 _) trodAll_mk0, (trodAll_cons_mk (Below.trod laidOut (by kernel_rfl) (of_decide_eq_true (by kernel_rfl)) h0 hg hlt0) (trodAll_cons_mk (shut_int Try.underlying37 w_wd) trodAll_mk0)), rfl, hg.frame _, fun h => by cases h⟩

theorem over : Rows.floatsApartRow.holds Try.pinned (OpenSpec.ofChange Rows.floatsApartSpec) :=
  OpenClaim.holds_of_wide 4 Try.f4 rfl rfl rfl rfl rfl rfl rfl ⟨rfl, rfl, rfl, rfl, rfl⟩ rfl rfl rfl rfl rfl (by kernel_rfl) Try.func4 (by kernel_rfl)
    (of_decide_eq_true (by kernel_rfl)) (by unfold Func.isWrapper; first | (rw [if_pos (by decide +kernel)]; kernel_rfl) | (rw [if_neg (by decide +kernel)]; exact ⟨rfl, rfl⟩))
    (fun os started H enc _ => lifted os started H enc)

/-- the statement -/
theorem proved : Rows.FloatsApartSaid :=
  over
#print axioms proved
end Go.Proofs.Ytfkpnondknfmeaa.floatsApart
