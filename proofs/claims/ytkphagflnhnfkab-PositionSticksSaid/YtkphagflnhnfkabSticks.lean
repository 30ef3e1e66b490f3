/-
  PositionSticks (layer 22): for every y, h, before, behind, top, scroll, more of kind uint32 the law returns true, and its arguments read as before. No conditions.
-/
import Derived.Test.YtkphagflnhnfkabRows
import Derived.Test.YtkphagflnhnfkabVmSym
import Derived.WalkKit
import Derived.ProofKit
import Derived.OpenShut
import Derived.LoopN
namespace Go.Proofs.Ytkphagflnhnfkab.positionSticks
open Go.ChangeShapes Go.WideShapes Go.ChangeAt Go.RowKit
set_option linter.unusedVariables false

theorem own : ownKnob Try.prog.godebug = none := by kernel_rfl
theorem isLength_ok (n : Int) (h0 : 0 ≤ n) (h1 : n ≤ 1000000000) (w : World) :
    Calls Try.prog 50 #[.int .i64 n] w fun e w' => e = .returned (.bool true) ∧ w' = w := by
  have e0 : decide (n ≥ 0) = true := by simpa using h0
  have e1 : decide (n ≤ 1000000000) = true := by simpa using h1
  go_enter Try.func50, Try.ntmps50
  go_wp2
  go_ret
  exact ⟨rfl, rfl⟩
theorem pick_at (a b c d e f : Value) (w : World) :
    (Instr.index 85 (.agg #[a, b, c, d, e, f]) (.int .i64 0)).run Try.prog w = .ok a w ∧
    (Instr.index 85 (.agg #[a, b, c, d, e, f]) (.int .i64 1)).run Try.prog w = .ok b w ∧
    (Instr.index 85 (.agg #[a, b, c, d, e, f]) (.int .i64 2)).run Try.prog w = .ok c w ∧
    (Instr.index 85 (.agg #[a, b, c, d, e, f]) (.int .i64 3)).run Try.prog w = .ok d w ∧
    (Instr.index 85 (.agg #[a, b, c, d, e, f]) (.int .i64 4)).run Try.prog w = .ok e w ∧
    (Instr.index 85 (.agg #[a, b, c, d, e, f]) (.int .i64 5)).run Try.prog w = .ok f w := by
  refine ⟨?_, ?_, ?_, ?_, ?_, ?_⟩ <;> kernel_rfl
theorem wrap_id (n : Int) (h0 : -9223372036854775808 ≤ n) (h1 : n ≤ 9223372036854775807) : IntKind.i64.wrap n = n := by
  rw [IntKind.wrap_i64]; omega
set_option maxRecDepth 100000 in
theorem stick_ok (y h f u t s v : Int) (w : World) (b : 0 ≤ y ∧ y ≤ 1000000000 ∧ 0 ≤ h ∧ h ≤ 1000000000 ∧ 0 ≤ f ∧ f ≤ 1000000000 ∧ 0 ≤ u ∧ u ≤ 1000000000 ∧ 0 ≤ t ∧ t ≤ 1000000000 ∧ 0 ≤ s ∧ s ≤ 1000000000) (hf : f ≤ y) (hu : y + h ≤ u) (hv : v = min (max y (s + t)) (u - h)) :
    Calls Try.prog 26 #[.int .i64 y, .int .i64 h, .int .i64 f, .int .i64 u, .int .i64 t, .int .i64 s] w fun e w' => e = .returned (.tuple #[.int .i64 v, .int .i64 0]) ∧ w' = w := by
  obtain ⟨y0, y1, h0, h1, f0, f1, u0, u1, t0, t1, s0, s1⟩ := b
  have g1 : decide (f > y) = false := by simp; omega
  have g2 : IntKind.i64.wrap (y + h) = y + h := wrap_id _ (by omega) (by omega)
  have g3 : decide (y + h > u) = false := by simp; omega
  have g4 : IntKind.i64.wrap (s + t) = s + t := wrap_id _ (by omega) (by omega)
  have g5 : IntKind.i64.wrap (u - h) = u - h := wrap_id _ (by omega) (by omega)
  obtain ⟨i0, i1, i2, i3, i4, i5⟩ := pick_at (.int .i64 y) (.int .i64 h) (.int .i64 f) (.int .i64 u) (.int .i64 t) (.int .i64 s) w
  go_enter Try.func26, Try.ntmps26
  go_wp2
  refine wp_loop_rounds 7 ?_
  rw [rounds_succ]
  go_wp2_with (go_at_call 50; refine (isLength_ok _ y0 y1 _).mono ?_; rintro e w' ⟨rfl, rfl⟩)
  rw [rounds_succ]
  go_wp2_with (go_at_call 50; refine (isLength_ok _ h0 h1 _).mono ?_; rintro e w' ⟨rfl, rfl⟩)
  rw [rounds_succ]
  go_wp2_with (go_at_call 50; refine (isLength_ok _ f0 f1 _).mono ?_; rintro e w' ⟨rfl, rfl⟩)
  rw [rounds_succ]
  go_wp2_with (go_at_call 50; refine (isLength_ok _ u0 u1 _).mono ?_; rintro e w' ⟨rfl, rfl⟩)
  rw [rounds_succ]
  go_wp2_with (go_at_call 50; refine (isLength_ok _ t0 t1 _).mono ?_; rintro e w' ⟨rfl, rfl⟩)
  rw [rounds_succ]
  go_wp2_with (go_at_call 50; refine (isLength_ok _ s0 s1 _).mono ?_; rintro e w' ⟨rfl, rfl⟩)
  rw [rounds_succ]
  go_wp2
  all_goals
    go_ret2
    refine ⟨?_, rfl⟩
    refine congrArg Ending.returned (congrArg Value.tuple ?_)
    change #[Value.int IntKind.i64 _, Value.int IntKind.i64 0] = _
    refine congrArg (fun z => #[Value.int IntKind.i64 z, Value.int IntKind.i64 0]) ?_
    subst hv
    first
      | omega
      | (split at * <;> omega)
/-- the chapter's examples: a closed run -/
theorem head_ok (w : World) : Calls Try.prog 18 #[] w fun e w' => e = .returned (.bool true) ∧ Below w.heap.size w w' :=
  Go.Vm.head_run (by kernel_rfl) (by kernel_rfl) (n := 1000000) (by kernel_rfl) w
set_option maxHeartbeats 4000000 in
theorem walk_of (a0 : Int) (a1 : Int) (a2 : Int) (a3 : Int) (a4 : Int) (a5 : Int) (a6 : Int) (w0 : (Lit.int .u32 a0).wf = true) (w1 : (Lit.int .u32 a1).wf = true) (w2 : (Lit.int .u32 a2).wf = true) (w3 : (Lit.int .u32 a3).wf = true) (w4 : (Lit.int .u32 a4).wf = true) (w5 : (Lit.int .u32 a5).wf = true) (w6 : (Lit.int .u32 a6).wf = true)
    (head : ∀ w, Calls Try.prog 18 #[] w fun e w' => e = .returned (.bool true) ∧ Below w.heap.size w w') (w : World) :
    Calls Try.prog 8 #[.int .u32 a0, .int .u32 a1, .int .u32 a2, .int .u32 a3, .int .u32 a4, .int .u32 a5, .int .u32 a6] w fun e w' => e = .returned (.bool true) ∧ Below w.heap.size w w' := by
  have bound : ∀ a : Int, (Lit.int .u32 a).wf = true → ∃ m, a.tmod 100000000 = m ∧ 0 ≤ m ∧ m < 100000000 := by
    intro a h
    simp [Lit.wf, IntKind.min, IntKind.max, IntKind.signed, IntKind.bits] at h
    exact ⟨a.tmod 100000000, rfl, Int.tmod_nonneg _ (by omega), Int.tmod_lt_of_pos _ (by omega)⟩
  obtain ⟨m0, e0, p0, q0⟩ := bound a0 w0
  obtain ⟨m1, e1, p1, q1⟩ := bound a1 w1
  obtain ⟨m2, e2, p2, q2⟩ := bound a2 w2
  obtain ⟨m3, e3, p3, q3⟩ := bound a3 w3
  obtain ⟨m4, e4, p4, q4⟩ := bound a4 w4
  obtain ⟨m5, e5, p5, q5⟩ := bound a5 w5
  obtain ⟨m6, e6, p6, q6⟩ := bound a6 w6
  have c0 : IntKind.i64.wrap m0 = m0 := wrap_id _ (by omega) (by omega)
  have c1 : IntKind.i64.wrap m1 = m1 := wrap_id _ (by omega) (by omega)
  have c2 : IntKind.i64.wrap m2 = m2 := wrap_id _ (by omega) (by omega)
  have c3 : IntKind.i64.wrap m3 = m3 := wrap_id _ (by omega) (by omega)
  have c4 : IntKind.i64.wrap m4 = m4 := wrap_id _ (by omega) (by omega)
  have c5 : IntKind.i64.wrap m5 = m5 := wrap_id _ (by omega) (by omega)
  have c6 : IntKind.i64.wrap m6 = m6 := wrap_id _ (by omega) (by omega)
  obtain ⟨p, hp⟩ : ∃ p, m2 + m0 = p := ⟨_, rfl⟩
  obtain ⟨r, hr⟩ : ∃ r, p + m1 = r := ⟨_, rfl⟩
  obtain ⟨u, hu⟩ : ∃ u, r + m3 = u := ⟨_, rfl⟩
  obtain ⟨s, hs⟩ : ∃ s, m5 + m6 = s := ⟨_, rfl⟩
  obtain ⟨l, hl⟩ : ∃ l, m5 + m4 = l := ⟨_, rfl⟩
  have d0 : IntKind.i64.wrap (m2 + m0) = p := by rw [wrap_id _ (by omega) (by omega)]; exact hp
  have d1 : IntKind.i64.wrap (p + m1) = r := by rw [wrap_id _ (by omega) (by omega)]; exact hr
  have d2 : IntKind.i64.wrap (r + m3) = u := by rw [wrap_id _ (by omega) (by omega)]; exact hu
  have d3 : IntKind.i64.wrap (m5 + m6) = s := by rw [wrap_id _ (by omega) (by omega)]; exact hs
  have d4 : IntKind.i64.wrap (m5 + m4) = l := by rw [wrap_id _ (by omega) (by omega)]; exact hl
  obtain ⟨a, ha⟩ : ∃ a, a = min (max p (m5 + m4)) (u - m1) := ⟨_, rfl⟩
  obtain ⟨b, hb⟩ : ∃ b, b = min (max p (s + m4)) (u - m1) := ⟨_, rfl⟩
  have k1 := fun w => stick_ok p m1 m2 u m4 m5 a w (by omega) (by omega) (by omega) ha
  have k2 := fun w => stick_ok p m1 m2 u m4 s b w (by omega) (by omega) (by omega) hb
  have f1 : decide (a < p) = false := by simp; omega
  obtain ⟨x, hx⟩ : ∃ x, a + m1 = x := ⟨_, rfl⟩
  obtain ⟨y, hy⟩ : ∃ y, b + m1 = y := ⟨_, rfl⟩
  obtain ⟨z, hz⟩ : ∃ z, b - a = z := ⟨_, rfl⟩
  have f2 : IntKind.i64.wrap (a + m1) = x := by rw [wrap_id _ (by omega) (by omega)]; exact hx
  have f3 : decide (x > u) = false := by simp; omega
  have f4 : decide (b < a) = false := by simp; omega
  have f5 : IntKind.i64.wrap (b - a) = z := by rw [wrap_id _ (by omega) (by omega)]; exact hz
  have f6 : decide (z > m6) = false := by simp; omega
  have f7 : IntKind.i64.wrap (b + m1) = y := by rw [wrap_id _ (by omega) (by omega)]; exact hy
  have f8 : decide (y > u) = false := by simp; omega
  have f9 : decide (a ≥ l) = true ∨ (decide (a ≥ l) = false ∧ (x == u) = true) := by
    simp; omega
  have f10 : (a == p) = true ∨ ((a == p) = false ∧ decide (a ≤ l) = true) := by
    simp; omega
  rcases f9 with f9 | ⟨f9, f9'⟩ <;> rcases f10 with f10 | ⟨f10, f10'⟩
  all_goals clear ha hb hx hy hz hp hr hu hs hl bound p0 p1 p2 p3 p4 p5 p6 q0 q1 q2 q3 q4 q5 q6 w0 w1 w2 w3 w4 w5 w6
  all_goals (
  go_enter Try.func8, Try.ntmps8
  go_wp2_with (first | (go_at_call 18; with_reducible refine (head _).mono ?_; rintro e w' ⟨rfl, hw⟩) | (go_at_call 26; with_reducible refine (k1 _).mono ?_; rintro e w' ⟨rfl, rfl⟩) | (go_at_call 26; with_reducible refine (k2 _).mono ?_; rintro e w' ⟨rfl, rfl⟩))
  go_ret
  exact ⟨rfl, hw⟩)
theorem walk (a0 : Int) (a1 : Int) (a2 : Int) (a3 : Int) (a4 : Int) (a5 : Int) (a6 : Int) (w0 : (Lit.int .u32 a0).wf = true) (w1 : (Lit.int .u32 a1).wf = true) (w2 : (Lit.int .u32 a2).wf = true) (w3 : (Lit.int .u32 a3).wf = true) (w4 : (Lit.int .u32 a4).wf = true) (w5 : (Lit.int .u32 a5).wf = true) (w6 : (Lit.int .u32 a6).wf = true) (w : World) :
    Calls Try.prog 8 #[.int .u32 a0, .int .u32 a1, .int .u32 a2, .int .u32 a3, .int .u32 a4, .int .u32 a5, .int .u32 a6] w fun e w' => e = .returned (.bool true) ∧ Below w.heap.size w w' :=
  walk_of a0 a1 a2 a3 a4 a5 a6 w0 w1 w2 w3 w4 w5 w6 head_ok w
/-! ### THE ROW's STEP: WRITTEN OUT: LEAVE IT -/
set_option maxRecDepth 100000 in
theorem lifted (os : Os) (started : os.Started) (H : Type) (enc : TypeId × Value → H) :
    ReturnsInHanded {} Try.checked os 8 .any (Rows.positionSticksSpec.pre6 enc Try.prog Try.f8 Rows.positionSticksRow.domain false) (Rows.positionSticksSpec.post enc Try.prog Try.f8 false true false false) := by
  refine returnsInHanded_of_change (C := Try.checked) own started (by kernel_rfl) Try.func8
    (ChangeSpec.witness6 (enc := enc) (C := Try.checked) false ⟨#[], #[.int .u32 0, .int .u32 0, .int .u32 0, .int .u32 0, .int .u32 0, .int .u32 0, .int .u32 0], []⟩ 8 (by kernel_rfl) (by kernel_rfl) (by kernel_rfl) (by kernel_rfl)) ?_
  intro W base args ds gs before hval0 hW hcnd _
  have hval : ∀ (j : Nat) t v, Try.f8.params[j]? = some t → args[j]? = some v → Value.okWide Try.prog W .any base t v := hval0
  have hW' := hW
  obtain ⟨p, q, hA0, hV, rfl, hfz, hnd⟩ := hW
  have hA : DataW.TrodAll enc Try.prog W 0 (fun _ => true) true Try.f8.params.toList args.toList ds p := hA0
  rw [Try.params8] at hA hval
  obtain ⟨v0, vs0, d0, ds0, p0, q0, hargs, rfl, rfl, h0, r0⟩ := trodAll_cons hA
  obtain ⟨v1, vs1, d1, ds1, p1, q1, rfl, rfl, rfl, h1, r1⟩ := trodAll_cons r0
  obtain ⟨v2, vs2, d2, ds2, p2, q2, rfl, rfl, rfl, h2, r2⟩ := trodAll_cons r1
  obtain ⟨v3, vs3, d3, ds3, p3, q3, rfl, rfl, rfl, h3, r3⟩ := trodAll_cons r2
  obtain ⟨v4, vs4, d4, ds4, p4, q4, rfl, rfl, rfl, h4, r4⟩ := trodAll_cons r3
  obtain ⟨v5, vs5, d5, ds5, p5, q5, rfl, rfl, rfl, h5, r5⟩ := trodAll_cons r4
  obtain ⟨v6, vs6, d6, ds6, p6, q6, rfl, rfl, rfl, h6, r6⟩ := trodAll_cons r5
  obtain ⟨rfl, rfl, rfl⟩ := trodAll_nil r6
  obtain rfl : args = #[v0, v1, v2, v3, v4, v5, v6] := by cases args; simp_all
  obtain ⟨rfl, rfl⟩ := trodVars_none hV
  obtain ⟨a0, rfl, rfl, rfl, w0⟩ := open_int Try.underlying46 (hval 0 46 v0 rfl rfl) h0
  obtain ⟨a1, rfl, rfl, rfl, w1⟩ := open_int Try.underlying46 (hval 1 46 v1 rfl rfl) h1
  obtain ⟨a2, rfl, rfl, rfl, w2⟩ := open_int Try.underlying46 (hval 2 46 v2 rfl rfl) h2
  obtain ⟨a3, rfl, rfl, rfl, w3⟩ := open_int Try.underlying46 (hval 3 46 v3 rfl rfl) h3
  obtain ⟨a4, rfl, rfl, rfl, w4⟩ := open_int Try.underlying46 (hval 4 46 v4 rfl rfl) h4
  obtain ⟨a5, rfl, rfl, rfl, w5⟩ := open_int Try.underlying46 (hval 5 46 v5 rfl rfl) h5
  obtain ⟨a6, rfl, rfl, rfl, w6⟩ := open_int Try.underlying46 (hval 6 46 v6 rfl rfl) h6
  clear hA0 hval0
  simp only [List.append_nil] at hW'
  refine (walk a0 a1 a2 a3 a4 a5 a6 w0 w1 w2 w3 w4 w5 w6 W).mono fun e W' ⟨he, hg⟩ => ?_
  subst he
  exact ⟨_, rfl, _, _, _, [], [], [], hW', trodAll_cons_mk (shut_bool Try.underlying4 _) trodAll_mk0, (trodAll_cons_mk (shut_int Try.underlying46 w0) (trodAll_cons_mk (shut_int Try.underlying46 w1) (trodAll_cons_mk (shut_int Try.underlying46 w2) (trodAll_cons_mk (shut_int Try.underlying46 w3) (trodAll_cons_mk (shut_int Try.underlying46 w4) (trodAll_cons_mk (shut_int Try.underlying46 w5) (trodAll_cons_mk (shut_int Try.underlying46 w6) trodAll_mk0))))))), rfl, hg.frame _, fun h => by cases h⟩

theorem over : Rows.positionSticksRow.holds Try.pinned (OpenSpec.ofChange Rows.positionSticksSpec) :=
  OpenClaim.holds_of_wide 8 Try.f8 rfl rfl rfl rfl rfl rfl rfl ⟨rfl, rfl, rfl, rfl, rfl⟩ rfl rfl rfl rfl rfl (by kernel_rfl) Try.func8 (by kernel_rfl)
    (of_decide_eq_true (by kernel_rfl)) (by unfold Func.isWrapper; first | (rw [if_pos (by decide +kernel)]; kernel_rfl) | (rw [if_neg (by decide +kernel)]; exact ⟨rfl, rfl⟩))
    (fun os started H enc _ => lifted os started H enc)

/-- ████ THE STATEMENT ████ -/
theorem proved : Rows.PositionSticksSaid :=
  over
#print axioms proved
end Go.Proofs.Ytkphagflnhnfkab.positionSticks
