/-
  StackCuts (layer 19): for every h and most of kind uint32 the law returns true, and its arguments read as before. No conditions.
-/
import Derived.Test.YtkphagflnhnfkabRows
import Derived.Test.YtkphagflnhnfkabVwTop
import Derived.Test.YtkphagflnhnfkabVmSym
import Derived.WalkKit
import Derived.ProofKit
import Derived.OpenShut
import Derived.Carry
namespace Go.Proofs.Ytkphagflnhnfkab.stackCuts
open Go.ChangeShapes Go.WideShapes Go.ChangeAt Go.RowKit
open Go.Vm2 (SemF TTok ttok_mk enter head_ok IsTrue top_run mkTT)
set_option linter.unusedVariables false
set_option linter.unusedSectionVars false

theorem own : ownKnob Try.prog.godebug = none := by kernel_rfl
theorem laidOut : laidOutB Try.prog = true := by kernel_rfl
/-- the types that the code asks for -/
def ts : List Nat := [46, 3, 26, 4]
def tt : Go.Vm2.TT := [
  (46, ⟨(.int .u32), false, 1, .int .u32 (0), true⟩),
  (3, ⟨(.int .i64), false, 1, .int .i64 (0), true⟩),
  (26, ⟨(.int .i64), false, 1, .int .i64 (0), true⟩),
  (4, ⟨.bool, false, 1, .bool false, true⟩)]
theorem tt_mk : mkTT Try.prog ts = some tt := by kernel_rfl
theorem head (w : World) : Calls Try.prog 29 #[] w fun e w' => e = .returned (.bool true) ∧ Below w.heap.size w w' :=
  Go.Vm.head_run (by kernel_rfl) (by kernel_rfl) (n := 100000) (by kernel_rfl) w
instance facts : Go.Vm.Facts := ⟨[], [29], false⟩
instance val : Go.Vm.Val := ⟨fun _ => 0⟩
instance sound : Go.Vm.Sound := ⟨fun f hf => (List.not_mem_nil hf).elim⟩
theorem tt_ok : TTok Try.prog tt := ttok_mk tt_mk
def body (f : Func) : Code := match f.body with | some c => c | none => .skip
set_option maxRecDepth 100000 in
theorem cut_ok (h most : Int) (H0 : Go.Vm2.H) (K : Go.Vm2.V → Go.Vm2.H → Prop) (hh : 0 ≤ h ∧ h ≤ 1000000000) (hm : 0 ≤ most ∧ most ≤ 1000000000)
    (hK1 : most ≠ 0 → most < h → K (.tup [.int .i64 most, .bool true, .int .i64 0]) H0) (hK2 : (most = 0 ∨ h ≤ most) → K (.tup [.int .i64 h, .bool false, .int .i64 0]) H0) :
    SemF Try.prog 35 [.int .i64 h, .int .i64 most] H0 K := by
  refine enter tt_ok Try.func35 (nt := 30) (cd := body Try.f35) rfl rfl rfl rfl ?_
  intro _; refine ⟨fun h1 => ?_, fun h1 => ?_⟩
  · simp at h1; omega
  intro _; refine ⟨fun h2 => ?_, fun h2 => ?_⟩
  · simp at h2; omega
  intro _; refine ⟨fun h3 => ?_, fun h3 => ?_⟩
  · simp at h3; omega
  intro _; refine ⟨fun h4 => ?_, fun h4 => ?_⟩
  · simp at h4; omega
  intro _; refine ⟨fun h5 => ?_, fun h5 => ?_⟩
  · intro _; refine ⟨fun h6 => ?_, fun h6 => ?_⟩
    · intro _; exact hK1 (by simpa using h5) (by simpa using h6)
    · intro _; exact hK2 (by simp at h6; omega)
  · intro _; exact hK2 (by simp at h5; omega)
set_option maxRecDepth 100000 in
theorem law (a b : Int) (ha : 0 ≤ a) (hb : 0 ≤ b) : SemF Try.prog 14 [.int .u32 a, .int .u32 b] ⟨0, 0, []⟩ (fun v _ => IsTrue v) := by
  have ea : IntKind.i64.wrap (a.tmod 1000000001) = a.tmod 1000000001 := by
    have h1 := Int.tmod_nonneg 1000000001 ha
    have h2 := Int.tmod_lt_of_pos a (b := 1000000001) (by omega)
    rw [IntKind.wrap_i64]; omega
  have eb : IntKind.i64.wrap (b.tmod 1000000001) = b.tmod 1000000001 := by
    have h1 := Int.tmod_nonneg 1000000001 hb
    have h2 := Int.tmod_lt_of_pos b (b := 1000000001) (by omega)
    rw [IntKind.wrap_i64]; omega
  have a1 := Int.tmod_nonneg 1000000001 ha
  have a2 := Int.tmod_lt_of_pos a (b := 1000000001) (by omega)
  have b1 := Int.tmod_nonneg 1000000001 hb
  have b2 := Int.tmod_lt_of_pos b (b := 1000000001) (by omega)
  refine enter tt_ok Try.func14 (nt := 78) (cd := body Try.f14) rfl rfl rfl rfl ?_
  intro _
  refine head_ok rfl Try.func29 (cd := body Try.f29) rfl ?_
  intro _; refine ⟨by decide, ?_⟩
  intro _; refine ⟨by decide, ?_⟩
  intro _
  refine cut_ok _ _ _ _ (by omega) (by omega) (fun h1 h2 => ?_) (fun h1 => ?_)
  · intro _
    refine cut_ok _ _ _ _ (by omega) (by omega) (fun h3 h4 => by omega) (fun h3 => ?_)
    iterate 8 (all_goals try (intro _; refine ⟨fun g => ?_, fun g => ?_⟩ <;> (try simp at g) <;> (try (exfalso; omega))))
    all_goals (intro _; show _ = true; first | rfl | (simp; done) | (simp; omega))
  · intro _
    refine cut_ok _ _ _ _ (by omega) (by omega) (fun h3 h4 => by omega) (fun h3 => ?_)
    iterate 8 (all_goals try (intro _; refine ⟨fun g => ?_, fun g => ?_⟩ <;> (try simp at g) <;> (try (exfalso; omega))))
    all_goals (intro _; show _ = true; first | rfl | (simp; done) | (simp; omega))
theorem walk (a b : Int) (wa : (Lit.int .u32 a).wf = true) (wb : (Lit.int .u32 b).wf = true) (w : World) :
    Calls Try.prog 14 #[.int .u32 a, .int .u32 b] w fun e w' => e = .returned (.bool true) ∧ Below w.heap.size w w' := by
  have ha : 0 ≤ a := by
    simp [Lit.wf, IntKind.min, IntKind.max, IntKind.signed, IntKind.bits] at wa
    omega
  have hb : 0 ≤ b := by
    simp [Lit.wf, IntKind.min, IntKind.max, IntKind.signed, IntKind.bits] at wb
    omega
  exact top_run (by kernel_rfl) (by kernel_rfl) (T := [29]) (fun f hf w => by
      rcases List.mem_cons.1 hf with e | e
      · subst e; exact head w
      · exact (List.not_mem_nil e).elim) (l := []) (args := [.int .u32 a, .int .u32 b]) (cargs := [.int .u32 a, .int .u32 b]) w (fun s hs => (List.not_mem_nil hs).elim)
    (show Go.Vm2.Cvs ([] : List Go.Vm2.Src).length (Go.Vm2.nuOf []) [.int .u32 a, .int .u32 b] [.int .u32 a, .int .u32 b] from Go.Vm2.Cvs.cons Go.Vm2.mk_int (Go.Vm2.Cvs.cons Go.Vm2.mk_int Go.Vm2.Cvs.nil)) rfl (law a b ha hb)

set_option maxRecDepth 100000 in
theorem lifted (os : Os) (started : os.Started) (H : Type) (enc : TypeId × Value → H) :
    ReturnsInHanded {} Try.checked os 14 .any (Rows.stackCutsSpec.pre6 enc Try.prog Try.f14 Rows.stackCutsRow.domain false) (Rows.stackCutsSpec.post enc Try.prog Try.f14 false true false false) := by
  refine returnsInHanded_of_change (C := Try.checked) own started (by kernel_rfl) Try.func14
    (ChangeSpec.witness6 (enc := enc) (C := Try.checked) false ⟨#[], #[.int .u32 0, .int .u32 0], []⟩ 8 (by kernel_rfl) (by kernel_rfl) (by kernel_rfl) (by kernel_rfl)) ?_
  intro W base args ds gs before hval0 hW hcnd _
  have hval : ∀ (j : Nat) t v, Try.f14.params[j]? = some t → args[j]? = some v → Value.okWide Try.prog W .any base t v := hval0
  have hW' := hW
  obtain ⟨p, q, hA0, hV, rfl, hfz, hnd⟩ := hW
  have hA : DataW.TrodAll enc Try.prog W 0 (fun _ => true) true Try.f14.params.toList args.toList ds p := hA0
  rw [Try.params14] at hA hval
  obtain ⟨v0, vs0, d0, ds0, p0, q0, hargs, rfl, rfl, h0, r0⟩ := trodAll_cons hA
  obtain ⟨v1, vs1, d1, ds1, p1, q1, rfl, rfl, rfl, h1, r1⟩ := trodAll_cons r0
  obtain ⟨rfl, rfl, rfl⟩ := trodAll_nil r1
  obtain rfl : args = #[v0, v1] := by cases args; simp_all
  obtain ⟨rfl, rfl⟩ := trodVars_none hV
  obtain ⟨a0, rfl, rfl, rfl, w0⟩ := open_int Try.underlying46 (hval 0 46 v0 rfl rfl) h0
  obtain ⟨a1, rfl, rfl, rfl, w1⟩ := open_int Try.underlying46 (hval 1 46 v1 rfl rfl) h1
  clear hA0 hval0
  refine (walk a0 a1 w0 w1 W).mono fun e W' ⟨he, hg⟩ => ?_
  subst he
  exact ⟨_, rfl, _, _, _, [], _, [], hW', trodAll_cons_mk (shut_bool Try.underlying4 _) trodAll_mk0, trodAll_cons_mk (shut_int Try.underlying46 w0) (trodAll_cons_mk (shut_int Try.underlying46 w1) trodAll_mk0), rfl, hg.frame _, fun h => by cases h⟩

theorem over : Rows.stackCutsRow.holds Try.pinned (OpenSpec.ofChange Rows.stackCutsSpec) :=
  OpenClaim.holds_of_wide 14 Try.f14 rfl rfl rfl rfl rfl rfl rfl ⟨rfl, rfl, rfl, rfl, rfl⟩ rfl rfl rfl rfl rfl (by kernel_rfl) Try.func14 (by kernel_rfl)
    (of_decide_eq_true (by kernel_rfl)) (by unfold Func.isWrapper; first | (rw [if_pos (by decide +kernel)]; kernel_rfl) | (rw [if_neg (by decide +kernel)]; exact ⟨rfl, rfl⟩))
    (fun os started H enc _ => lifted os started H enc)

/-- the statement -/
theorem proved : Rows.StackCutsSaid :=
  over
#print axioms proved
end Go.Proofs.Ytkphagflnhnfkab.stackCuts
