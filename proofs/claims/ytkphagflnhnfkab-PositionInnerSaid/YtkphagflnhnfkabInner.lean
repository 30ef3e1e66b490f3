/-
  PositionInner (layer 22): for every style and every w of kind uint32 the law returns true, and its arguments read as before. No conditions.
-/
import Derived.Test.YtkphagflnhnfkabRows
import Derived.Test.YtkphagflnhnfkabVmSym
import Derived.WalkKit
import Derived.ProofKit
import Derived.OpenShut
import Derived.Carry
namespace Go.Proofs.Ytkphagflnhnfkab.positionInner
open Go.ChangeShapes Go.WideShapes Go.ChangeAt Go.RowKit
set_option linter.unusedVariables false

theorem own : ownKnob Try.prog.godebug = none := by kernel_rfl
theorem head (w : World) : Calls Try.prog 18 #[] w fun e w' => e = .returned (.bool true) ∧ Below w.heap.size w w' :=
  Go.Vm.head_run (by kernel_rfl) (by kernel_rfl) (n := 1000000) (by kernel_rfl) w
theorem laidOut : laidOutB Try.prog = true := by kernel_rfl
/-- all ways that the comparisons part -/
def tree : Go.Vm.DT :=
(.node false (.var 4) (.lit (0))
.leaf
(.node false (.lit (100000)) (.var 4)
.leaf
(.node false (.var 5) (.lit (0))
.leaf
(.node false (.lit (100000)) (.var 5)
.leaf
(.node false (.var 6) (.lit (0))
.leaf
(.node false (.lit (100000)) (.var 6)
.leaf
(.node false (.var 3) (.lit (0))
.leaf
(.node false (.lit (100000)) (.var 3)
.leaf
(.node false (.var 18) (.lit (-100000))
.leaf
(.node false (.lit (100000)) (.var 18)
.leaf
(.node false (.var 19) (.lit (-100000))
.leaf
(.node false (.lit (100000)) (.var 19)
.leaf
(.node false (.cv .i64 (.bin .rem .u32 (.var 33) (.lit (1000000001)))) (.lit (0))
.dead
(.node false (.lit (1000000000)) (.cv .i64 (.bin .rem .u32 (.var 33) (.lit (1000000001))))
.dead
(.node false (.bin .sub .i64 (.cv .i64 (.bin .rem .u32 (.var 33) (.lit (1000000001)))) (.bin .mul .i64 (.lit (2)) (.var 3))) (.lit (0))
(.node true (.var 3) (.var 3)
(.node true (.bin .add .i64 (.lit (0)) (.bin .mul .i64 (.lit (2)) (.var 3))) (.cv .i64 (.bin .rem .u32 (.var 33) (.lit (1000000001))))
.leaf
(.node false (.cv .i64 (.bin .rem .u32 (.var 33) (.lit (1000000001)))) (.bin .mul .i64 (.lit (2)) (.var 3))
.leaf
.dead))
.dead)
(.node true (.var 3) (.var 3)
(.node true (.bin .add .i64 (.bin .sub .i64 (.cv .i64 (.bin .rem .u32 (.var 33) (.lit (1000000001)))) (.bin .mul .i64 (.lit (2)) (.var 3))) (.bin .mul .i64 (.lit (2)) (.var 3))) (.cv .i64 (.bin .rem .u32 (.var 33) (.lit (1000000001))))
.leaf
(.node true (.bin .sub .i64 (.cv .i64 (.bin .rem .u32 (.var 33) (.lit (1000000001)))) (.bin .mul .i64 (.lit (2)) (.var 3))) (.lit (0))
(.node false (.cv .i64 (.bin .rem .u32 (.var 33) (.lit (1000000001)))) (.bin .mul .i64 (.lit (2)) (.var 3))
.leaf
.dead)
.dead))
.dead))))))))))))))))
def args : List Go.Vm.AV := [.agg ((List.range 33).map fun j => .sym .i64 (.var j)), .sym .u32 (.var 33)]
theorem all_ways : Go.Vm.checkT Try.prog [18] 1000 6 args [] tree = true := by kernel_rfl
theorem never (σ : Nat → Int) (h : 0 ≤ σ 33) : Go.Vm.Deads σ tree := by
  have h1 : 0 ≤ (σ 33).tmod 1000000001 := Int.tmod_nonneg _ h
  have h2 : (σ 33).tmod 1000000001 < 1000000001 := Int.tmod_lt_of_pos _ (by omega)
  simp only [tree, Go.Vm.deads_lt, Go.Vm.deads_eq, Go.Vm.deads_leaf, Go.Vm.deads_dead, Go.Vm.SI.val, Go.Vm.arith, IntKind.wrap_i64]
  generalize (σ 33).tmod 1000000001 = m at *
  repeat' (first | exact True.intro | apply And.intro | intro _)
  all_goals first | omega | (rename_i hn; exact absurd trivial hn)
theorem walk (cs : Array Value) (hs : cs.size = 33) (hc : ∀ i, i < 33 → ∃ n, cs[i]? = some (.int .i64 n)) (a : Int) (wa : (Lit.int .u32 a).wf = true) (w : World) :
    Calls Try.prog 6 #[.agg cs, .int .u32 a] w fun e w' => e = .returned (.bool true) ∧ Below w.heap.size w w' := by
  let σ : Nat → Int := fun i => if i = 33 then a else match cs[i]? with | some (.int _ n) => n | _ => 0
  letI : Go.Vm.Val := ⟨σ⟩
  letI : Go.Vm.Facts := ⟨[], [], true⟩
  haveI : Go.Vm.Sound := ⟨fun f hf => by cases hf⟩
  have h33 : σ 33 = a := by simp [σ]
  have ha : Go.Vm.convs (fun _ => none) args = some [.agg cs, .int .u32 a] := by
    have h1 : Go.Vm.convs (fun _ => none) ((List.range 33).map fun j => Go.Vm.AV.sym .i64 (.var j)) = some cs.toList := by
      refine Go.Vm.convs_of_get (by simp [hs]) (fun i v hv => ?_)
      have hi : i < 33 := by
        rcases Nat.lt_or_ge i 33 with h | h
        · exact h
        · rw [List.getElem?_eq_none (by simpa using h)] at hv; cases hv
      obtain ⟨n, hn⟩ := hc i hi
      simp [List.getElem?_range hi] at hv
      subst hv
      refine ⟨.int .i64 n, ?_, by simpa using hn⟩
      simp only [Go.Vm.conv, Go.Vm.SI.val]
      have : Go.Vm.Val.σ i = n := by
        show (if i = 33 then a else match cs[i]? with | some (.int _ n) => n | _ => 0) = n
        rw [if_neg (by omega), hn]
      rw [this]
    simp only [args, Go.Vm.convs, Go.Vm.conv, h1, Go.Vm.SI.val]
    simp only [Array.toArray_toList, Option.some.injEq, List.cons.injEq, true_and, and_true]
    exact congrArg (Value.int .u32) h33
  have h0 : 0 ≤ σ 33 := by
    rw [h33]
    simp [Lit.wf, IntKind.min, IntKind.max, IntKind.signed, IntKind.bits] at wa
    omega
  exact Go.Vm.tree_run (by kernel_rfl) (by kernel_rfl) (K := [18]) (fun f hf w => by
      rcases List.mem_cons.1 hf with e | e
      · subst e; exact head w
      · exact (List.not_mem_nil e).elim) σ ha w tree [] all_ways (fun f hf => by cases hf) (never σ h0)
set_option maxRecDepth 100000 in
/-- what an array of integers is -/
theorem ints_of {w : World} {base : Nat} {v : Value} (h : Value.okWide Try.prog w .any base 33 v) : ∃ cs : Array Value, v = .agg cs ∧ cs.size = 33 ∧ ∀ i, i < 33 → ∃ n, cs[i]? = some (.int .i64 n) := by
  unfold Value.okWide at h
  rw [Try.underlying33] at h
  obtain ⟨cs, rfl, hs, ts, ht, _, hk⟩ := h
  have e1 : Try.prog.cellsOf 33 = 33 := by kernel_rfl
  have e2 : Try.prog.cellTypes Try.prog.depth 33 = some (List.replicate 33 3) := by kernel_rfl
  rw [e2] at ht
  simp only [Option.some.injEq] at ht
  subst ht
  refine ⟨cs, rfl, by rw [hs, e1], fun i hi => ?_⟩
  have hlt : i < cs.size := by rw [hs, e1]; exact hi
  obtain ⟨u, hu, hok⟩ := hk i cs[i] (by simp [hlt])
  have hu3 : u = 3 := by
    rw [List.length_replicate, Nat.mod_eq_of_lt hi, List.getElem?_replicate, if_pos hi] at hu
    exact (Option.some.inj hu).symm
  subst hu3
  have hv : Value.okWide Try.prog w .any base 3 cs[i] := by
    unfold Value.okWide
    rw [Try.underlying3]
    exact hok
  obtain ⟨n, hn⟩ := okWide_int Try.underlying3 hv
  exact ⟨n, by rw [← hn]; simp [hlt]⟩

set_option maxRecDepth 100000 in
theorem lifted (os : Os) (started : os.Started) (H : Type) (enc : TypeId × Value → H) :
    ReturnsInHanded {} Try.checked os 6 .any (Rows.positionInnerSpec.pre6 enc Try.prog Try.f6 Rows.positionInnerRow.domain false) (Rows.positionInnerSpec.post enc Try.prog Try.f6 false true false false) := by
  refine returnsInHanded_of_change (C := Try.checked) own started (by kernel_rfl) Try.func6
    (ChangeSpec.witness6 (enc := enc) (C := Try.checked) false ⟨#[], #[.agg (Array.replicate 33 (.int .i64 0)), .int .u32 0], []⟩ 8 (by kernel_rfl) (by kernel_rfl) (by kernel_rfl) (by kernel_rfl)) ?_
  intro W base args ds gs before hval0 hW hcnd _
  have hval : ∀ (j : Nat) t v, Try.f6.params[j]? = some t → args[j]? = some v → Value.okWide Try.prog W .any base t v := hval0
  have hW' := hW
  obtain ⟨p, q, hA0, hV, rfl, hfz, hnd⟩ := hW
  have hA : DataW.TrodAll enc Try.prog W 0 (fun _ => true) true Try.f6.params.toList args.toList ds p := hA0
  rw [Try.params6] at hA hval
  obtain ⟨v0, vs0, d0, ds0, p0, q0, hargs, rfl, rfl, h0, r0⟩ := trodAll_cons hA
  obtain ⟨v1, vs1, d1, ds1, p1, q1, rfl, rfl, rfl, h1, r1⟩ := trodAll_cons r0
  obtain ⟨rfl, rfl, rfl⟩ := trodAll_nil r1
  obtain rfl : args = #[v0, v1] := by cases args; simp_all
  obtain ⟨rfl, rfl⟩ := trodVars_none hV
  obtain ⟨cs, rfl, hs, hc⟩ := ints_of (hval 0 33 v0 rfl rfl)
  obtain ⟨a1, rfl, rfl, rfl, w1⟩ := open_int Try.underlying46 (hval 1 46 v1 rfl rfl) h1
  have hlt0 : ∀ x ∈ p0, x.block < W.heap.size := fun x hx => by simpa using hW'.lt x (by simp [hx])
  clear hA0 hval0
  refine (walk cs hs hc a1 w1 W).mono fun e W' ⟨he, hg⟩ => ?_
  subst he
  exact ⟨_, rfl, _, _, _, [], _, [], hW', trodAll_cons_mk (shut_bool Try.underlying4 _) trodAll_mk0, trodAll_cons_mk (Below.trod laidOut (by kernel_rfl) (of_decide_eq_true (by kernel_rfl)) h0 hg hlt0) (trodAll_cons_mk (shut_int Try.underlying46 w1) trodAll_mk0), rfl, hg.frame _, fun h => by cases h⟩

theorem over : Rows.positionInnerRow.holds Try.pinned (OpenSpec.ofChange Rows.positionInnerSpec) :=
  OpenClaim.holds_of_wide 6 Try.f6 rfl rfl rfl rfl rfl rfl rfl ⟨rfl, rfl, rfl, rfl, rfl⟩ rfl rfl rfl rfl rfl (by kernel_rfl) Try.func6 (by kernel_rfl)
    (of_decide_eq_true (by kernel_rfl)) (by unfold Func.isWrapper; first | (rw [if_pos (by decide +kernel)]; kernel_rfl) | (rw [if_neg (by decide +kernel)]; exact ⟨rfl, rfl⟩))
    (fun os started H enc _ => lifted os started H enc)

/-- the statement -/
theorem proved : Rows.PositionInnerSaid :=
  over
#print axioms proved
end Go.Proofs.Ytkphagflnhnfkab.positionInner
