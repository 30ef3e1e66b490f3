/-
  QuotFits: whatever the arguments, the law returns true, and its arguments read as before. No conditions.
-/
import Derived.Test.YtpodfpoaplnheaaRows
import Derived.Test.YtpodfpoaplnheaaVwOpen2
import Derived.Test.YtpodfpoaplnheaaVwRules7
import Derived.Test.YtpodfpoaplnheaaVmFast3
import Derived.WalkKit
import Derived.ProofKit
import Derived.OpenShut
import Derived.Carry
import Derived.Test.YtpodfpoaplnheaaHead
import Derived.Test.YtpodfpoaplnheaaSrtA
import Derived.Test.YtpodfpoaplnheaaSrtB
import Derived.Test.YtpodfpoaplnheaaSrtC
namespace Go.Proofs.Ytpodfpoaplnheaa.quotFits
open Go.ChangeShapes Go.WideShapes Go.ChangeAt Go.RowKit
open Go.Vm (Facts Val Sound)
open Go.Vm2
set_option linter.unusedVariables false
set_option linter.unusedSectionVars false

open Go.Proofs.Ytpodfpoaplnheaa.srt
theorem own : ownKnob Try.prog.godebug = none := by kernel_rfl
theorem laidOut : laidOutB Try.prog = true := by kernel_rfl
set_option maxRecDepth 100000
theorem Kx_inj2 {a b : Int} (h : Kx a = Kx b) : a = b := by
  unfold Kx at h
  split at h <;> split at h <;> omega
theorem FitR.uniq {l : List Int} {v w : V} (h : FitR l v) (k : FitR l w) : v = w := by
  unfold FitR at h k
  split at h
  · rename_i c; rw [if_pos c] at k; rw [h, k]
  rename_i c
  rw [if_neg c] at k
  split at h
  · rename_i c2; rw [if_pos c2] at k; rw [h, k]
  rename_i c2
  rw [if_neg c2] at k
  rcases h with ⟨d, a, hd, ha, hf, hb, hm, rfl⟩ | ⟨hb, rfl⟩
  · rcases k with ⟨d', a', hd', ha', hf', hb', hm', rfl⟩ | ⟨hb', rfl⟩
    · have ed : d = d' := by
        rcases Int.lt_trichotomy d d' with q | q | q
        · exact absurd hf (hb' d a hd.1 q ha)
        · exact q
        · exact absurd hf' (hb d' a' hd'.1 q ha')
      subst ed
      have ea : a = a' := by
        rcases Int.lt_trichotomy (Kx a) (Kx a') with q | q | q
        · exact absurd hf (hm' a ha q)
        · exact Kx_inj2 q
        · exact absurd hf' (hm a' ha' q)
      subst ea
      rfl
    · exact absurd hf (hb' d a hd.1 (by omega) ha)
  · rcases k with ⟨d', a', hd', ha', hf', hb', hm', rfl⟩ | ⟨hb', rfl⟩
    · exact absurd hf' (hb d' a' hd'.1 (by omega) ha')
    · rfl
theorem FitR.form {l : List Int} {v : V} (h : FitR l v) : ∃ a b d f e, v = .tup [QV a b d, .bool f, .int .i64 e] := by
  unfold FitR at h
  split at h
  · exact ⟨_, _, _, _, _, h⟩
  split at h
  · exact ⟨_, _, _, _, _, h⟩
  rcases h with ⟨d, a, _, _, _, _, _, rfl⟩ | ⟨_, rfl⟩
  · exact ⟨_, _, _, _, _, rfl⟩
  · exact ⟨_, _, _, _, _, rfl⟩
theorem vd_bd2 {l : List Int} {d a : Int} (hC : AllC l) (hd : 1 ≤ d ∧ d ≤ 16) (ha : -40000000000 ≤ a ∧ a ≤ 40000000000) (hl : l.length ≤ 4000) {k : Nat} (hk : k < l.length) : (-16000000000 ≤ d * raw l k ∧ d * raw l k ≤ 16000000000) ∧ (-160000000000000 ≤ a * k ∧ a * k ≤ 160000000000000) := by
  have h := hC k hk
  have h1 := h.1; have h2 := h.2
  have a1 : d * (-1000000000) ≤ d * raw l k := Int.mul_le_mul_of_nonneg_left h1 (by omega)
  have a2 : d * raw l k ≤ d * 1000000000 := Int.mul_le_mul_of_nonneg_left h2 (by omega)
  have c1 : (-40000000000) * (k : Int) ≤ a * k := Int.mul_le_mul_of_nonneg_right ha.1 (by omega)
  have c2 : a * (k : Int) ≤ 40000000000 * k := Int.mul_le_mul_of_nonneg_right ha.2 (by omega)
  omega
theorem least_ok (l : List Int) (a d : Int) (hC : AllC l) (hd : 1 ≤ d ∧ d ≤ 16) (ha : -40000000000 ≤ a ∧ a ≤ 40000000000) (hl : l.length ≤ 4000) : SemF Try.prog 43 [.slc 0 1 0 l.length, .int .i64 a, .int .i64 d] ⟨1, 1, DV l⟩ (fun v _ => v = .tup [.int .i64 (lw l d a l.length), .test (decide (lw l d a l.length ≤ hw l d a l.length))] ∧ nameless v = true) := by
  refine enter tt_ok Try.func43 (nt := 48) (cd := body Try.f43) rfl rfl rfl rfl ?_
  intro _
  refine loop2 tt_ok [8, 9, 10] [] 1 (fun k : { k : Nat // k ≤ l.length } => [(8, .int .i64 (lw l d a k.1)), (9, .int .i64 (hw l d a k.1)), (10, .int .i64 (k.1 : Nat))]) (fun _ => []) (fun k => l.length - k.1) ⟨0, Nat.zero_le _⟩ ?_
  intro _
  refine ⟨⟨th [] 1, rfl, rfl, rfl, rfl, rfl, rfl, ?_, ?_⟩, ?_⟩
  · (repeat' first | exact trivial | exact rfl | refine And.intro ?_ ?_)
  · (repeat' first | exact trivial | exact rfl | refine And.intro ?_ ?_)
  intro ⟨k, hk⟩
  have hk : k ≤ l.length := hk
  intro _; refine ⟨fun g => ?_, fun g => ?_⟩
  rotate_left
  · have g := of_decide_eq_false (show decide ((k : Int) < (l.length : Int)) = false from g)
    have : k = l.length := by omega
    subst this
    intro _
    exact ⟨rfl, rfl⟩
  have g := of_decide_eq_true (show decide ((k : Int) < (l.length : Int)) = true from g)
  have vb := vd_bd2 hC hd ha hl (k := k) (by omega)
  have ev : l.getD (0 + ((k : Nat) : Int).toNat) 0 = raw l k := by rw [Nat.zero_add]; rfl
  intro _; refine ⟨show 0 ≤ (k : Int) ∧ (k : Int) < (l.length : Int) by omega, ?_⟩
  intro _; refine ⟨show 0 + (k : Int).toNat < l.length by omega, ?_⟩
  intro _; refine ⟨show 0 ≤ (k : Int) ∧ (k : Int) < (l.length : Int) by omega, ?_⟩
  intro _; refine ⟨show 0 + (k : Int).toNat < l.length by omega, ?_⟩
  refine ⟨⟨k + 1, by show k + 1 ≤ l.length; omega⟩, by show l.length - (k + 1) < l.length - k; omega, th [] 1, rfl, rfl, rfl, rfl, rfl, rfl, ?_, ?_⟩
  · (repeat' first | exact trivial | exact rfl | refine And.intro ?_ ?_)
    · show max (lw l d a k) (d * raw l k - a * k) = max (lw l d a k) (IntKind.i64.wrap (IntKind.i64.wrap (d * l.getD (0 + ((k : Nat) : Int).toNat) 0) - IntKind.i64.wrap (a * (k : Int))))
      rw [ev, wrapS (d * raw l k) ⟨by omega, by omega⟩, wrapS (a * (k : Int)) ⟨by omega, by omega⟩, wrapS _ ⟨by omega, by omega⟩]
    · show min (hw l d a k) (d * raw l k - a * k + d - 1) = min (hw l d a k) (IntKind.i64.wrap (IntKind.i64.wrap (IntKind.i64.wrap (IntKind.i64.wrap (d * l.getD (0 + ((k : Nat) : Int).toNat) 0) + d) - 1) - IntKind.i64.wrap (a * (k : Int))))
      rw [ev, wrapS (d * raw l k) ⟨by omega, by omega⟩, wrapS (a * (k : Int)) ⟨by omega, by omega⟩, wrapS (d * raw l k + d) ⟨by omega, by omega⟩, wrapS (d * raw l k + d - 1) ⟨by omega, by omega⟩, wrapS _ ⟨by omega, by omega⟩]
      have : d * raw l k - a * k + d - 1 = d * raw l k + d - 1 - a * k := by omega
      rw [this]
    · exact (wrap_nat k (by omega)).symm
  · (repeat' first | exact trivial | exact rfl | refine And.intro ?_ ?_)
theorem abs_ok (n : Int) (h : -4000000000000000000 ≤ n ∧ n ≤ 4000000000000000000) : SemF Try.prog 36 [.int .i64 n] ⟨0, 0, []⟩ (fun v _ => v = .int .i64 (max n (-n)) ∧ nameless v = true) := by
  refine enter tt_ok Try.func36 (nt := 7) (cd := body Try.f36) rfl rfl rfl rfl ?_
  intro _
  refine ⟨?_, rfl⟩
  show V.int .i64 (max n (IntKind.i64.wrap (0 - n))) = _
  rw [wrapS _ ⟨by omega, by omega⟩, Int.zero_sub]
theorem rfirst1_ok (l : List Int) (d : Int) (hC : AllC l) (h1 : l.length = 1) (hd : 1 ≤ d ∧ d ≤ 16) : SemF Try.prog 35 [.slc 0 1 0 l.length, .int .i64 d] ⟨1, 1, DV l⟩ (fun v _ => v = .tup [QV 0 (lw l d 0 l.length) d, .test (decide (lw l d 0 l.length ≤ hw l d 0 l.length))] ∧ nameless v = true) := by
  refine enter tt_ok Try.func35 (nt := 94) (cd := body Try.f35) rfl rfl rfl rfl ?_
  intro _; refine ⟨fun g => ?_, fun g => ?_⟩
  rotate_left
  · have g := beq_eq_false_iff_ne.1 (show ((l.length : Int) == 1) = false from g)
    omega
  intro _
  refine call_pure [(0, some 0)] (least_ok l 0 d hC hd ⟨by decide, by decide⟩ (by omega)) rfl rfl rfl ?_ ?_ ?_
  · (repeat' first | exact trivial | exact rfl | refine And.intro ?_ ?_)
  · (repeat' first | exact trivial | exact rfl | refine And.intro ?_ ?_)
  intro v hv _
  subst hv
  intro _
  exact ⟨rfl, rfl⟩
instance decFe (l : List Int) (d a : Int) : Decidable (Fe l d a) := inferInstanceAs (Decidable (_ ≤ _))
/-- the slopes of the reference that are tried before one -/
def Tr (l : List Int) (d lo a x : Int) : Prop := lo ≤ x ∧ x < a ∧ Cd x ∧ Fe l d x
def Bst (l : List Int) (d lo a : Int) : Option Int → Prop
  | none => ∀ x, ¬ Tr l d lo a x
  | some x => Tr l d lo a x ∧ ∀ y, Tr l d lo a y → Kx x ≤ Kx y
def oQ (l : List Int) (d : Int) : Option Int → List V
  | none => [.int .i64 0, .int .i64 0, .int .i64 0]
  | some x => [.int .i64 x, .int .i64 (lw l d x l.length), .int .i64 d]
def loS (l : List Int) (d : Int) : Int := -(fl (d - 1 - rise l d) (l.length - 1))
def hiS (l : List Int) (d : Int) : Int := fl (rise l d + d - 1) (l.length - 1)
theorem mem_slopes {l : List Int} {d x : Int} : x ∈ slopes l d ↔ loS l d ≤ x ∧ x ≤ hiS l d ∧ Cd x := by
  unfold slopes
  rw [mem_seqI]
  unfold cntS fromS untilS loS hiS Cd
  omega
theorem Bst.step_no {l : List Int} {d lo a : Int} {o : Option Int} (h : Bst l d lo a o) (k : Cd a → ¬ Fe l d a) : Bst l d lo (a + 1) o := by
  have back : ∀ y, Tr l d lo (a + 1) y → Tr l d lo a y := fun y ⟨h1, h2, h3, h4⟩ => ⟨h1, by
    by_cases e : y = a
    · subst e; exact absurd h4 (k h3)
    · omega, h3, h4⟩
  cases o with
  | none => exact fun x hx => h x (back x hx)
  | some x => exact ⟨⟨h.1.1, by have := h.1.2.1; omega, h.1.2.2⟩, fun y hy => h.2 y (back y hy)⟩
theorem Bst.step_new {l : List Int} {d lo a : Int} (h : Bst l d lo a none) (ha : lo ≤ a) (hc : Cd a) (hf : Fe l d a) : Bst l d lo (a + 1) (some a) := by
  refine ⟨⟨ha, by omega, hc, hf⟩, fun y ⟨h1, h2, h3, h4⟩ => ?_⟩
  by_cases e : y = a
  · subst e; exact Int.le_refl _
  · exact absurd ⟨h1, by omega, h3, h4⟩ (h y)
theorem Bst.step_better {l : List Int} {d lo a x : Int} (h : Bst l d lo a (some x)) (ha : lo ≤ a) (hc : Cd a) (hf : Fe l d a) (k : max a (-a) < max x (-x)) : Bst l d lo (a + 1) (some a) := by
  refine ⟨⟨ha, by omega, hc, hf⟩, fun y ⟨h1, h2, h3, h4⟩ => ?_⟩
  by_cases e : y = a
  · subst e; exact Int.le_refl _
  · have q := h.2 y ⟨h1, by omega, h3, h4⟩
    unfold Kx at q ⊢
    split at q <;> split at q <;> split <;> omega
theorem Bst.step_keep {l : List Int} {d lo a x : Int} (h : Bst l d lo a (some x)) (k : ¬ max a (-a) < max x (-x)) : Bst l d lo (a + 1) (some x) := by
  refine ⟨⟨h.1.1, by have := h.1.2.1; omega, h.1.2.2⟩, fun y ⟨h1, h2, h3, h4⟩ => ?_⟩
  by_cases e : y = a
  · have hx := h.1.2.1
    subst e
    unfold Kx
    split <;> split <;> omega
  · exact h.2 y ⟨h1, by omega, h3, h4⟩
theorem rfirst_ok (l : List Int) (d : Int) (hC : AllC l) (h1 : 2 ≤ l.length) (hl : l.length ≤ 4000) (hd : 1 ≤ d ∧ d ≤ 16) : SemF Try.prog 35 [.slc 0 1 0 l.length, .int .i64 d] ⟨1, 1, DV l⟩ (fun v _ => (∃ o, Bst l d (loS l d) (max (loS l d) (hiS l d + 1)) o ∧ v = .tup [.agg (oQ l d o), .bool o.isSome]) ∧ nameless v = true) := by
  have rb := rise_bd hC h1 hd
  have eL : IntKind.i64.wrap ((l.length : Int) - 1) = (l.length : Int) - 1 := wrapS _ ⟨by omega, by omega⟩
  have va := hC (l.length - 1) (by omega)
  have vb := hC 0 (by omega)
  have va1 := va.1; have va2 := va.2; have vb1 := vb.1; have vb2 := vb.2
  have f1 := fl_bd (d - 1 - rise l d) (l.length - 1) (by omega) 33000000000 ⟨by omega, by omega⟩
  have f2 := fl_bd (rise l d + d - 1) (l.length - 1) (by omega) 33000000000 ⟨by omega, by omega⟩
  have b1 : -33000000001 ≤ loS l d ∧ loS l d ≤ 33000000001 := by unfold loS; omega
  have b2 : -33000000001 ≤ hiS l d ∧ hiS l d ≤ 33000000001 := by unfold hiS; omega
  refine enter tt_ok Try.func35 (nt := 94) (cd := body Try.f35) rfl rfl rfl rfl ?_
  intro _; refine ⟨fun g => ?_, fun g => ?_⟩
  · have g := beq_iff_eq.1 (show ((l.length : Int) == 1) = true from g)
    omega
  intro _; refine ⟨show 0 ≤ IntKind.i64.wrap ((l.length : Int) - 1) ∧ IntKind.i64.wrap ((l.length : Int) - 1) < (l.length : Int) by rw [eL]; omega, ?_⟩
  intro _; refine ⟨show 0 + (IntKind.i64.wrap ((l.length : Int) - 1)).toNat < l.length by rw [eL]; omega, ?_⟩
  intro _; refine ⟨show 0 ≤ (0 : Int) ∧ (0 : Int) < (l.length : Int) by omega, ?_⟩
  intro _; refine ⟨show 0 + (0 : Int).toNat < l.length by show 0 + 0 < l.length; omega, ?_⟩
  intro _; refine ⟨by kernel_rfl, ?_⟩
  have eV : l.getD (0 + (IntKind.i64.wrap ((l.length : Int) - 1)).toNat) 0 = raw l (l.length - 1) := by
    rw [eL, Nat.zero_add, show ((l.length : Int) - 1).toNat = l.length - 1 by omega]; rfl
  have eW : l.getD (0 + (0 : Int).toNat) 0 = raw l 0 := rfl
  obtain ⟨R, hR⟩ : ∃ R, R = IntKind.i64.wrap (d * IntKind.i64.wrap (l.getD (0 + (IntKind.i64.wrap ((l.length : Int) - 1)).toNat) 0 - l.getD (0 + (0 : Int).toNat) 0)) := ⟨_, rfl⟩
  have eR : R = rise l d := by
    rw [hR, eV, eW, wrapS (raw l (l.length - 1) - raw l 0) ⟨by omega, by omega⟩]
    show IntKind.i64.wrap (rise l d) = rise l d
    rw [wrapS _ ⟨by omega, by omega⟩]
  intro _
  refine call_pure [] (rfloor_ok (d - 1 - rise l d) (l.length - 1) (by omega) ⟨by omega, by omega⟩) rfl rfl rfl ?_ ?_ ?_
  · (repeat' first | exact trivial | exact rfl | refine And.intro ?_ ?_)
  · (repeat' first | exact trivial | exact rfl | refine And.intro ?_ ?_)
    first | (refine Eq.trans ?_ (congrArg (fun r => IntKind.i64.wrap (0 - IntKind.i64.wrap (IntKind.i64.wrap (r - d) + 1))) hR); show _ = IntKind.i64.wrap (0 - IntKind.i64.wrap (IntKind.i64.wrap (R - d) + 1)); rw [eR, wrapS (rise l d - d) ⟨by omega, by omega⟩, wrapS (rise l d - d + 1) ⟨by omega, by omega⟩, wrapS _ ⟨by omega, by omega⟩]; omega) | exact eL.symm
    exact eL.symm
  intro v hv _
  subst hv
  intro _
  refine call_pure [] (rfloor_ok (rise l d + d - 1) (l.length - 1) (by omega) ⟨by omega, by omega⟩) rfl rfl rfl ?_ ?_ ?_
  · (repeat' first | exact trivial | exact rfl | refine And.intro ?_ ?_)
  · (repeat' first | exact trivial | exact rfl | refine And.intro ?_ ?_)
    first | (refine Eq.trans ?_ (congrArg (fun r => IntKind.i64.wrap (IntKind.i64.wrap (r + d) - 1)) hR); show _ = IntKind.i64.wrap (IntKind.i64.wrap (R + d) - 1); rw [eR, wrapS (rise l d + d) ⟨by omega, by omega⟩, wrapS _ ⟨by omega, by omega⟩]) | exact eL.symm
    exact eL.symm
  intro v hv _
  subst hv
  intro _
  refine loop2 tt_ok [13, 14] [2] 3 (fun p : { p : Int × Option Int // (loS l d ≤ p.1 ∧ p.1 ≤ max (loS l d) (hiS l d + 1)) ∧ Bst l d (loS l d) p.1 p.2 } => [(13, .bool p.1.2.isSome), (14, .int .i64 p.1.1)]) (fun p => [(2, .cells (oQ l d p.1.2))]) (fun p => (hiS l d + 1 - p.1.1).toNat) ⟨(loS l d, none), ⟨Int.le_refl _, by show loS l d ≤ _; omega⟩, fun x hx => by have h1 := hx.1; have h2 := hx.2.1; simp only at h2; omega⟩ ?_
  intro _
  refine ⟨⟨th [(2, some 2)] 3, rfl, rfl, rfl, rfl, rfl, rfl, ?_, ?_⟩, ?_⟩
  · (repeat' first | exact trivial | exact rfl | refine And.intro ?_ ?_)
    show loS l d = IntKind.i64.wrap (0 - fl (d - 1 - rise l d) (l.length - 1))
    rw [wrapS _ ⟨by omega, by omega⟩, Int.zero_sub]; rfl
  · (repeat' first | exact trivial | exact rfl | refine And.intro ?_ ?_)
  intro ⟨⟨a, o⟩, ⟨ha1, ha2⟩, hB⟩
  have ha1 : loS l d ≤ a := ha1
  have ha2 : a ≤ max (loS l d) (hiS l d + 1) := ha2
  have hB : Bst l d (loS l d) a o := hB
  intro _; refine ⟨fun g => ?_, fun g => ?_⟩
  rotate_left
  · have g := of_decide_eq_false (show decide (a ≤ hiS l d) = false from g)
    have hae : a = max (loS l d) (hiS l d + 1) := by omega
    subst hae
    cases o with
    | none =>
      intro _
      exact ⟨⟨none, hB, rfl⟩, rfl⟩
    | some x =>
      intro _
      exact ⟨⟨some x, hB, rfl⟩, rfl⟩
  have g := of_decide_eq_true (show decide (a ≤ hiS l d) = true from g)
  intro _
  refine call_pure [(0, some 0)] (least_ok l a d hC hd ⟨by omega, by omega⟩ hl) rfl rfl rfl ?_ ?_ ?_
  · (repeat' first | exact trivial | exact rfl | refine And.intro ?_ ?_)
  · (repeat' first | exact trivial | exact rfl | refine And.intro ?_ ?_)
  intro v hv _
  subst hv
  cases o with
  | none =>
    intro _; refine ⟨fun g => ?_, fun g => ?_⟩
    · have hf : Fe l d a := of_decide_eq_true (show decide (lw l d a l.length ≤ hw l d a l.length) = true from g)
      intro _
      refine Or.inl ?_
      intro _
      refine rcoord_test _ _ _ ?_
      intro _; refine ⟨fun g => ?_, fun g => ?_⟩
      · have hc := of_decide_eq_true (show decide (Cd a) = true from g)
        intro _; refine ⟨by kernel_rfl, ?_⟩
        refine ⟨⟨(a + 1, some a), ⟨by show loS l d ≤ a + 1; omega, by show a + 1 ≤ _; omega⟩, Bst.step_new hB ha1 hc hf⟩, by show (hiS l d + 1 - (a + 1)).toNat < (hiS l d + 1 - a).toNat; omega, th [(2, some 2)] 3, rfl, rfl, rfl, rfl, rfl, rfl, ?_, ?_⟩
        · (repeat' first | exact trivial | exact rfl | refine And.intro ?_ ?_)
          exact (wrapS (a + 1) ⟨by omega, by omega⟩).symm
        · (repeat' first | exact trivial | exact rfl | refine And.intro ?_ ?_)
      · have hc := of_decide_eq_false (show decide (Cd a) = false from g)
        intro _; refine ⟨by kernel_rfl, ?_⟩
        refine ⟨⟨(a + 1, none), ⟨by show loS l d ≤ a + 1; omega, by show a + 1 ≤ _; omega⟩, Bst.step_no hB (fun q => absurd q hc)⟩, by show (hiS l d + 1 - (a + 1)).toNat < (hiS l d + 1 - a).toNat; omega, th [(2, some 2)] 3, rfl, rfl, rfl, rfl, rfl, rfl, ?_, ?_⟩
        · (repeat' first | exact trivial | exact rfl | refine And.intro ?_ ?_)
          exact (wrapS (a + 1) ⟨by omega, by omega⟩).symm
        · (repeat' first | exact trivial | exact rfl | refine And.intro ?_ ?_)
    · have hf : ¬ Fe l d a := of_decide_eq_false (show decide (lw l d a l.length ≤ hw l d a l.length) = false from g)
      intro _; refine ⟨by kernel_rfl, ?_⟩
      refine ⟨⟨(a + 1, none), ⟨by show loS l d ≤ a + 1; omega, by show a + 1 ≤ _; omega⟩, Bst.step_no hB (fun _ => hf)⟩, by show (hiS l d + 1 - (a + 1)).toNat < (hiS l d + 1 - a).toNat; omega, th [(2, some 2)] 3, rfl, rfl, rfl, rfl, rfl, rfl, ?_, ?_⟩
      · (repeat' first | exact trivial | exact rfl | refine And.intro ?_ ?_)
        exact (wrapS (a + 1) ⟨by omega, by omega⟩).symm
      · (repeat' first | exact trivial | exact rfl | refine And.intro ?_ ?_)
  | some x =>
    have hx := hB.1.2.2.1
    have hx1 := hx.1; have hx2 := hx.2
    intro _; refine ⟨fun g => ?_, fun g => ?_⟩
    · have hf : Fe l d a := of_decide_eq_true (show decide (lw l d a l.length ≤ hw l d a l.length) = true from g)
      intro _
      refine Or.inl ?_
      intro _
      refine rcoord_test _ _ _ ?_
      intro _; refine ⟨fun g => ?_, fun g => ?_⟩
      · have hc := of_decide_eq_true (show decide (Cd a) = true from g)
        intro _
        refine Or.inl ?_
        intro _
        refine call_pure [] (abs_ok a ⟨by omega, by omega⟩) rfl rfl rfl ?_ ?_ ?_
        · (repeat' first | exact trivial | exact rfl | refine And.intro ?_ ?_)
        · (repeat' first | exact trivial | exact rfl | refine And.intro ?_ ?_)
        intro v hv _
        subst hv
        intro _
        refine Or.inl ?_
        intro _
        refine call_pure [] (abs_ok x ⟨by omega, by omega⟩) rfl rfl rfl ?_ ?_ ?_
        · (repeat' first | exact trivial | exact rfl | refine And.intro ?_ ?_)
        · (repeat' first | exact trivial | exact rfl | refine And.intro ?_ ?_)
        intro v hv _
        subst hv
        intro _; refine ⟨by kernel_rfl, ?_⟩
        intro _; refine ⟨fun g => ?_, fun g => ?_⟩
        · have g := of_decide_eq_true (show decide (max a (-a) < max x (-x)) = true from g)
          refine ⟨⟨(a + 1, some a), ⟨by show loS l d ≤ a + 1; omega, by show a + 1 ≤ _; omega⟩, Bst.step_better hB ha1 hc hf g⟩, by show (hiS l d + 1 - (a + 1)).toNat < (hiS l d + 1 - a).toNat; omega, th [(2, some 2)] 3, rfl, rfl, rfl, rfl, rfl, rfl, ?_, ?_⟩
          · (repeat' first | exact trivial | exact rfl | refine And.intro ?_ ?_)
            exact (wrapS (a + 1) ⟨by omega, by omega⟩).symm
          · (repeat' first | exact trivial | exact rfl | refine And.intro ?_ ?_)
        · have g := of_decide_eq_false (show decide (max a (-a) < max x (-x)) = false from g)
          refine ⟨⟨(a + 1, some x), ⟨by show loS l d ≤ a + 1; omega, by show a + 1 ≤ _; omega⟩, Bst.step_keep hB g⟩, by show (hiS l d + 1 - (a + 1)).toNat < (hiS l d + 1 - a).toNat; omega, th [(2, some 2)] 3, rfl, rfl, rfl, rfl, rfl, rfl, ?_, ?_⟩
          · (repeat' first | exact trivial | exact rfl | refine And.intro ?_ ?_)
            exact (wrapS (a + 1) ⟨by omega, by omega⟩).symm
          · (repeat' first | exact trivial | exact rfl | refine And.intro ?_ ?_)
      · have hc := of_decide_eq_false (show decide (Cd a) = false from g)
        intro _; refine ⟨by kernel_rfl, ?_⟩
        refine ⟨⟨(a + 1, some x), ⟨by show loS l d ≤ a + 1; omega, by show a + 1 ≤ _; omega⟩, Bst.step_no hB (fun q => absurd q hc)⟩, by show (hiS l d + 1 - (a + 1)).toNat < (hiS l d + 1 - a).toNat; omega, th [(2, some 2)] 3, rfl, rfl, rfl, rfl, rfl, rfl, ?_, ?_⟩
        · (repeat' first | exact trivial | exact rfl | refine And.intro ?_ ?_)
          exact (wrapS (a + 1) ⟨by omega, by omega⟩).symm
        · (repeat' first | exact trivial | exact rfl | refine And.intro ?_ ?_)
    · have hf : ¬ Fe l d a := of_decide_eq_false (show decide (lw l d a l.length ≤ hw l d a l.length) = false from g)
      intro _; refine ⟨by kernel_rfl, ?_⟩
      refine ⟨⟨(a + 1, some x), ⟨by show loS l d ≤ a + 1; omega, by show a + 1 ≤ _; omega⟩, Bst.step_no hB (fun _ => hf)⟩, by show (hiS l d + 1 - (a + 1)).toNat < (hiS l d + 1 - a).toNat; omega, th [(2, some 2)] 3, rfl, rfl, rfl, rfl, rfl, rfl, ?_, ?_⟩
      · (repeat' first | exact trivial | exact rfl | refine And.intro ?_ ?_)
        exact (wrapS (a + 1) ⟨by omega, by omega⟩).symm
      · (repeat' first | exact trivial | exact rfl | refine And.intro ?_ ?_)
theorem RFit_ok (l : List Int) (hl : l.length ≤ 9223372036854775807) : SemF Try.prog 15 [.slc 0 1 0 l.length] ⟨1, 1, DV l⟩ (fun v _ => FitR l v ∧ nameless v = true) := by
  refine enter tt_ok Try.func15 (nt := 31) (cd := body Try.f15) rfl rfl rfl rfl ?_
  intro _; refine ⟨fun g => ?_, fun g => ?_⟩
  · have g := of_decide_eq_true (show decide ((l.length : Int) > 4000) = true from g)
    intro _
    exact ⟨by unfold FitR; rw [if_pos (by omega)], rfl⟩
  have g1 := of_decide_eq_false (show decide ((l.length : Int) > 4000) = false from g)
  have no : l.length = 0 ∨ ¬ AllC l → FitR l (.tup [QV 0 0 0, .bool false, .int .i64 1]) ∧ nameless (.tup [QV 0 0 0, .bool false, .int .i64 1]) = true := fun h => ⟨by unfold FitR; rw [if_neg (by omega), if_pos h], rfl⟩
  intro _
  refine call_pure [(0, some 0)] (vals_ok l hl) rfl rfl rfl ?_ ?_ ?_
  · (repeat' first | exact trivial | exact rfl | refine And.intro ?_ ?_)
  · (repeat' first | exact trivial | exact rfl | refine And.intro ?_ ?_)
  intro v hv _
  subst hv
  intro _; refine ⟨fun g => ?_, fun g => ?_⟩
  · have g : (!decide (Vls l)) = true := g
    rw [Bool.not_eq_true'] at g
    have g := of_decide_eq_false g
    intro _
    refine no ?_
    by_cases e : l.length = 0
    · exact .inl e
    · exact .inr fun q => g ⟨q, by omega, by omega⟩
  have g2 : (!decide (Vls l)) = false := g
  rw [Bool.not_eq_false'] at g2
  have hV := of_decide_eq_true g2
  have hC := hV.1
  have hlen := hV.2.1
  have hl4 := hV.2.2
  intro _
  refine loop2 tt_ok [6] [] 2 (fun e : { e : Nat // (1 ≤ e ∧ e ≤ 17) ∧ Bef l e } => [(6, .int .i64 (e.1 : Nat))]) (fun _ => []) (fun e => 17 - e.1) ⟨1, ⟨by omega, by omega⟩, fun e a h1 h2 => by omega⟩ ?_
  intro _
  refine ⟨⟨th [] 2, rfl, rfl, rfl, rfl, rfl, rfl, ?_, ?_⟩, ?_⟩
  · (repeat' first | exact trivial | exact rfl | refine And.intro ?_ ?_)
  · (repeat' first | exact trivial | exact rfl | refine And.intro ?_ ?_)
  intro ⟨e, ⟨he1, he2⟩, hBe⟩
  intro _; refine ⟨fun g => ?_, fun g => ?_⟩
  rotate_left
  · have g := of_decide_eq_false (show decide ((e : Int) ≤ 16) = false from g)
    have : e = 17 := by omega
    subst this
    intro _
    exact ⟨by unfold FitR; rw [if_neg (by omega), if_neg (fun h => h.elim (fun q => by omega) (fun q => q hC))]; exact .inr ⟨hBe, rfl⟩, rfl⟩
  have g := of_decide_eq_true (show decide ((e : Int) ≤ 16) = true from g)
  have hd : 1 ≤ (e : Int) ∧ (e : Int) ≤ 16 := by omega
  have nxt : (∀ a, a ∈ SS l e → ¬ Fe l e a) → Bef l ((e + 1 : Nat) : Int) := fun k e' a h1 h2 h3 => by
    by_cases q : e' = e
    · rw [q]; rw [q] at h3; exact k a h3
    · exact hBe e' a h1 (by omega) h3
  have wE : ((e + 1 : Nat) : Int) = IntKind.i64.wrap ((e : Int) + 1) := by rw [wrapS _ ⟨by omega, by omega⟩]; omega
  intro _
  by_cases h1 : l.length = 1
  · have eS : SS l e = [0] := by unfold SS; rw [if_pos h1]
    refine call_pure [(0, some 0)] (rfirst1_ok l e hC h1 hd) rfl rfl rfl ?_ ?_ ?_
    · (repeat' first | exact trivial | exact rfl | refine And.intro ?_ ?_)
    · (repeat' first | exact trivial | exact rfl | refine And.intro ?_ ?_)
    intro v hv _
    subst hv
    intro _; refine ⟨fun g => ?_, fun g => ?_⟩
    · have hf := of_decide_eq_true (show decide (lw l e 0 l.length ≤ hw l e 0 l.length) = true from g)
      intro _
      refine ⟨?_, rfl⟩
      unfold FitR
      rw [if_neg (by omega), if_neg (fun h => h.elim (fun q => by omega) (fun q => q hC))]
      exact .inl ⟨e, 0, hd, by rw [eS]; simp, hf, hBe, fun a' h1' h2' => by
        rw [eS] at h1'
        have : a' = 0 := by simpa using h1'
        subst this
        exact absurd h2' (by omega), rfl⟩
    · have hf : ¬ Fe l e 0 := of_decide_eq_false (show decide (lw l e 0 l.length ≤ hw l e 0 l.length) = false from g)
      refine ⟨⟨e + 1, ⟨by omega, by omega⟩, nxt (fun a h => by
        rw [eS] at h
        have : a = 0 := by simpa using h
        subst this; exact hf)⟩, by show 17 - (e + 1) < 17 - e; omega, th [] 2, rfl, rfl, rfl, rfl, rfl, rfl, ?_, ?_⟩
      · (repeat' first | exact trivial | exact rfl | refine And.intro ?_ ?_)
        exact wE
      · (repeat' first | exact trivial | exact rfl | refine And.intro ?_ ?_)
  have eS : ∀ a, a ∈ SS l e ↔ loS l e ≤ a ∧ a ≤ hiS l e ∧ Cd a := fun a => by unfold SS; rw [if_neg h1, mem_slopes]
  refine call_pure [(0, some 0)] (rfirst_ok l e hC (by omega) hl4 hd) rfl rfl rfl ?_ ?_ ?_
  · (repeat' first | exact trivial | exact rfl | refine And.intro ?_ ?_)
  · (repeat' first | exact trivial | exact rfl | refine And.intro ?_ ?_)
  intro v hv _
  obtain ⟨o, hB, rfl⟩ := hv
  cases o with
  | none =>
    refine ⟨⟨e + 1, ⟨by omega, by omega⟩, nxt (fun a h hf => by
      have := (eS a).1 h
      exact hB a ⟨this.1, by omega, this.2.2, hf⟩)⟩, by show 17 - (e + 1) < 17 - e; omega, th [] 2, rfl, rfl, rfl, rfl, rfl, rfl, ?_, ?_⟩
    · (repeat' first | exact trivial | exact rfl | refine And.intro ?_ ?_)
      exact wE
    · (repeat' first | exact trivial | exact rfl | refine And.intro ?_ ?_)
  | some x =>
    intro _
    refine ⟨?_, rfl⟩
    unfold FitR
    rw [if_neg (by omega), if_neg (fun h => h.elim (fun q => by omega) (fun q => q hC))]
    have hx := hB.1
    exact .inl ⟨e, x, hd, (eS x).2 ⟨hx.1, by have := hx.1; have := hx.2.1; omega, hx.2.2.1⟩, hx.2.2.2, hBe, fun a' h1' h2' hf => by
      have q := (eS a').1 h1'
      have := hB.2 a' ⟨q.1, by omega, q.2.2, hf⟩
      omega, rfl⟩
theorem RFit_pre (l : List Int) (n : Nat) (hn : n ≤ l.length) (hl : l.length ≤ 9223372036854775807) : SemF Try.prog 15 [.slc 0 1 0 n] ⟨1, 1, DV l⟩ (fun v _ => FitR (l.take n) v ∧ nameless v = true) := by
  have h := RFit_ok (l.take n) (by rw [tk_len hn]; omega)
  rw [tk_len hn] at h
  exact weak h rfl rfl (pre_dv hn)
theorem fl_uniq {n d x r : Int} (hd : 1 ≤ d) (h1 : d * x ≤ n) (h2 : n < d * x + d) (k1 : d * r ≤ n) (k2 : n < d * r + d) : x = r := by
  rcases Int.lt_trichotomy x r with q | q | q
  · have := Int.mul_le_mul_of_nonneg_left (show x + 1 ≤ r by omega) (show 0 ≤ d by omega)
    rw [Int.mul_add, Int.mul_one] at this; omega
  · exact q
  · have := Int.mul_le_mul_of_nonneg_left (show r + 1 ≤ x by omega) (show 0 ≤ d by omega)
    rw [Int.mul_add, Int.mul_one] at this; omega
/-- a quotient fits a list -/
def Ft (a b d : Int) (l : List Int) : Prop := ∀ i, i < l.length → qv a b d i = raw l i
instance decFt (a b d : Int) (l : List Int) : Decidable (Ft a b d l) := inferInstanceAs (Decidable (∀ i, i < l.length → _))
theorem qv_iff {a b d r : Int} (hd : 1 ≤ d) (i : Nat) : qv a b d i = r ↔ d * r - a * i ≤ b ∧ b ≤ d * r - a * i + d - 1 := by
  have f := fl_spec (a * i + b) d hd
  unfold qv
  constructor
  · intro h; rw [h] at f; omega
  · intro h; exact fl_uniq hd f.1 f.2 (by omega) (by omega)
theorem lw_ge {l : List Int} {d a : Int} : ∀ {k i : Nat}, i < k → d * raw l i - a * i ≤ lw l d a k
  | k + 1, i, h => by
    by_cases e : i = k
    · subst e; simp only [lw]; omega
    · have := lw_ge (l := l) (d := d) (a := a) (k := k) (i := i) (by omega)
      simp only [lw]; omega
theorem hw_le {l : List Int} {d a : Int} : ∀ {k i : Nat}, i < k → hw l d a k ≤ d * raw l i - a * i + d - 1
  | k + 1, i, h => by
    by_cases e : i = k
    · subst e; simp only [hw]; omega
    · have := hw_le (l := l) (d := d) (a := a) (k := k) (i := i) (by omega)
      simp only [hw]; omega
theorem lw_min {l : List Int} {d a b : Int} (hb : -1000000000 ≤ b) : ∀ {k : Nat}, (∀ i : Nat, i < k → d * raw l i - a * i ≤ b) → lw l d a k ≤ b
  | 0, _ => hb
  | k + 1, h => by
    have h1 := lw_min hb (k := k) (fun i hi => h i (by omega))
    have h2 := h k (by omega)
    simp only [lw]; omega
theorem hw_max {l : List Int} {d a b : Int} (hb : b ≤ 1000000000) : ∀ {k : Nat}, (∀ i : Nat, i < k → b ≤ d * raw l i - a * i + d - 1) → b ≤ hw l d a k
  | 0, _ => hb
  | k + 1, h => by
    have h1 := hw_max hb (k := k) (fun i hi => h i (by omega))
    have h2 := h k (by omega)
    simp only [hw]; omega
theorem lw_lo (l : List Int) (d a : Int) (k : Nat) : -1000000000 ≤ lw l d a k := lw_mono l d a 0 k (Nat.zero_le _)
theorem hw_hi (l : List Int) (d a : Int) (k : Nat) : hw l d a k ≤ 1000000000 := hw_mono l d a 0 k (Nat.zero_le _)
theorem fe_ft {l : List Int} {d a : Int} (hd : 1 ≤ d) (h : Fe l d a) : Ft a (lw l d a l.length) d l ∧ Cd (lw l d a l.length) := by
  unfold Fe at h
  refine ⟨fun i hi => (qv_iff hd i).2 ⟨lw_ge hi, ?_⟩, lw_lo l d a _, ?_⟩
  · have := hw_le (l := l) (d := d) (a := a) hi
    omega
  · have := hw_hi l d a l.length
    omega
theorem ft_bd {l : List Int} {a b d : Int} (hq : Qv a b d) (h : Ft a b d l) : lw l d a l.length ≤ b ∧ b ≤ hw l d a l.length :=
  ⟨lw_min hq.2.2.1 fun i hi => ((qv_iff hq.1.1 i).1 (h i hi)).1, hw_max hq.2.2.2 fun i hi => ((qv_iff hq.1.1 i).1 (h i hi)).2⟩
theorem fl_ge {n d x : Int} (hd : 1 ≤ d) (h : d * x ≤ n) : x ≤ fl n d := by
  have f := fl_spec n d hd
  by_cases q : x ≤ fl n d
  · exact q
  · have := Int.mul_le_mul_of_nonneg_left (show fl n d + 1 ≤ x by omega) (show 0 ≤ d by omega)
    rw [Int.mul_add, Int.mul_one] at this; omega
theorem ft_mem {l : List Int} {a b d : Int} (hq : Qv a b d) (h : Ft a b d l) (hl : 2 ≤ l.length) : a ∈ SS l d := by
  have h0 := (qv_iff hq.1.1 0).1 (h 0 (by omega))
  have h1 := (qv_iff hq.1.1 (l.length - 1)).1 (h (l.length - 1) (by omega))
  have e : ((l.length - 1 : Nat) : Int) = (l.length : Int) - 1 := by omega
  rw [e] at h1
  have ez : a * ((0 : Nat) : Int) = 0 := by simp
  rw [ez] at h0
  have er : rise l d = d * raw l (l.length - 1) - d * raw l 0 := by unfold rise; rw [Int.mul_sub]
  have ec : ((l.length : Int) - 1) * a = a * ((l.length : Int) - 1) := Int.mul_comm _ _
  have en : ((l.length : Int) - 1) * (-a) = -(a * ((l.length : Int) - 1)) := by rw [Int.mul_neg, ec]
  unfold SS
  rw [if_neg (by omega), mem_slopes]
  have k1 : a ≤ hiS l d := by unfold hiS; exact fl_ge (by omega) (by rw [ec, er]; omega)
  have k2 : -a ≤ fl (d - 1 - rise l d) (l.length - 1) := fl_ge (by omega) (by rw [en, er]; omega)
  exact ⟨by unfold loS; omega, k1, hq.2.1⟩
theorem one_lw {l : List Int} (h1 : l.length = 1) (d a : Int) : lw l d a l.length = lw l d 0 l.length ∧ hw l d a l.length = hw l d 0 l.length := by
  rw [h1]; simp [lw, hw]
def Bfr (a b d a' b' d' : Int) : Prop :=
  if d ≠ d' then d < d' else if max a (-a) ≠ max a' (-a') then max a (-a) < max a' (-a') else a < a' ∨ (a = a' ∧ b < b')
instance decBfr (a b d a' b' d' : Int) : Decidable (Bfr a b d a' b' d') := by unfold Bfr; infer_instance
theorem best {l : List Int} (hC : AllC l) (h1 : 1 ≤ l.length) (hl : l.length ≤ 4000) {v : V} (hv : FitR l v) {A B D : Int} (hq : Qv A B D) (hf : Ft A B D l) :
    ∃ a b d, v = .tup [QV a b d, .bool true, .int .i64 0] ∧ Qv a b d ∧ Ft a b d l ∧ ¬ Bfr A B D a b d := by
  unfold FitR at hv
  rw [if_neg (by omega), if_neg (fun h => h.elim (fun q => by omega) (fun q => q hC))] at hv
  have hb := ft_bd hq hf
  have key : ∃ A', A' ∈ SS l D ∧ Fe l D A' := by
    by_cases e : l.length = 1
    · have o := one_lw e D A
      exact ⟨0, by unfold SS; rw [if_pos e]; simp, by unfold Fe; omega⟩
    · exact ⟨A, ft_mem hq hf (by omega), by unfold Fe; omega⟩
  obtain ⟨A', hA', hfA'⟩ := key
  rcases hv with ⟨d, a, hd, ha, hfe, hbe, hmin, rfl⟩ | ⟨hbe, rfl⟩
  · have ft := fe_ft hd.1 hfe
    refine ⟨a, _, d, rfl, ⟨hd, ?_, ft.2⟩, ft.1, ?_⟩
    · unfold SS at ha
      split at ha
      · simp at ha; subst ha; exact ⟨by decide, by decide⟩
      · exact slopes_bd l d a ha
    · unfold Bfr
      intro hB
      split at hB
      · exact hbe D A' hq.1.1 hB hA' hfA'
      · rename_i eD
        have eD : D = d := Decidable.of_not_not eD
        subst eD
        by_cases e : l.length = 1
        · have ea : a = 0 := by unfold SS at ha; rw [if_pos e] at ha; simpa using ha
          subst ea
          have o := one_lw e D A
          split at hB
          · omega
          · rename_i q
            rcases hB with hB | ⟨hB, hB2⟩
            · omega
            · omega
        · have hAm := ft_mem hq hf (by omega)
          have hk : ¬ Kx A < Kx a := fun q => hmin A hAm q (by unfold Fe; omega)
          split at hB
          · exact hk (by unfold Kx; split <;> split <;> omega)
          · rename_i q
            rcases hB with hB | ⟨hB, hB2⟩
            · exact hk (by unfold Kx; split <;> split <;> omega)
            · subst hB; omega
  · exact absurd hfA' (hbe D A' hq.1.1 (by have := hq.1.2; omega) hA')
theorem fit_forms {l : List Int} (hC : AllC l) (h1 : 1 ≤ l.length) (hl : l.length ≤ 4000) {v : V} (hv : FitR l v) :
    (∃ a b d, v = .tup [QV a b d, .bool true, .int .i64 0] ∧ Qv a b d ∧ Ft a b d l) ∨ v = .tup [QV 0 0 0, .bool false, .int .i64 0] := by
  unfold FitR at hv
  rw [if_neg (by omega), if_neg (fun h => h.elim (fun q => by omega) (fun q => q hC))] at hv
  rcases hv with ⟨d, a, hd, ha, hfe, hbe, hmin, rfl⟩ | ⟨hbe, rfl⟩
  · have ft := fe_ft hd.1 hfe
    refine .inl ⟨a, _, d, rfl, ⟨hd, ?_, ft.2⟩, ft.1⟩
    unfold SS at ha
    split at ha
    · simp at ha; subst ha; exact ⟨by decide, by decide⟩
    · exact slopes_bd l d a ha
  · exact .inr rfl
theorem fits_ok (a b d : Int) (l : List Int) (h : Qv a b d) (hl : l.length ≤ 4000) : SemF Try.prog 19 [.agg (QA a b d), .slc 0 1 0 l.length] ⟨1, 1, DV l⟩ (fun v _ => v = .test (decide (Ft a b d l)) ∧ nameless v = true) := by
  refine SemF.test ?_
  refine enter tt_ok Try.func19 (nt := 20) (cd := body Try.f19) rfl rfl rfl rfl ?_
  intro _
  refine loop2 tt_ok [5] [] 2 (fun k : { k : Nat // k ≤ l.length ∧ ∀ i, i < k → qv a b d i = raw l i } => [(5, .int .i64 (k.1 : Nat))]) (fun _ => []) (fun k => l.length - k.1) ⟨0, by omega, fun i h => by omega⟩ ?_
  intro _
  refine ⟨⟨th [] 2, rfl, rfl, rfl, rfl, rfl, rfl, ?_, ?_⟩, ?_⟩
  · (repeat' first | exact trivial | exact rfl | refine And.intro ?_ ?_)
  · (repeat' first | exact trivial | exact rfl | refine And.intro ?_ ?_)
  intro ⟨k, hk, hm⟩
  have hk : k ≤ l.length := hk
  intro _; refine ⟨fun g => ?_, fun g => ?_⟩
  rotate_left
  · have g := of_decide_eq_false (show decide ((k : Int) < (l.length : Int)) = false from g)
    have : k = l.length := by omega
    subst this
    intro _
    exact ⟨true, .inl rfl, by rw [decide_eq_true (show Ft a b d l from hm)], rfl⟩
  have g := of_decide_eq_true (show decide ((k : Int) < (l.length : Int)) = true from g)
  have ev : l.getD (0 + ((k : Nat) : Int).toNat) 0 = raw l k := by rw [Nat.zero_add]; rfl
  intro _
  refine Or.inl ?_
  intro _
  refine call_pure [] (value_ok a b d k h ⟨by omega, by omega⟩) rfl rfl rfl ?_ ?_ ?_
  · (repeat' first | exact trivial | exact rfl | refine And.intro ?_ ?_)
  · (repeat' first | exact trivial | exact rfl | refine And.intro ?_ ?_)
  intro v hv _
  subst hv
  intro _; refine ⟨show 0 ≤ (k : Int) ∧ (k : Int) < (l.length : Int) by omega, ?_⟩
  intro _; refine ⟨show 0 + (k : Int).toNat < l.length by omega, ?_⟩
  intro _; refine ⟨by kernel_rfl, ?_⟩
  intro _; refine ⟨fun g => ?_, fun g => ?_⟩
  · have g2 : (qv a b d k != l.getD (0 + ((k : Nat) : Int).toNat) 0) = true := g
    rw [ev] at g2
    have g2 : qv a b d k ≠ raw l k := by simpa using g2
    intro _
    exact ⟨false, .inl rfl, by rw [decide_eq_false (fun q : Ft a b d l => g2 (q k (by omega)))], rfl⟩
  have g2 : (qv a b d k != l.getD (0 + ((k : Nat) : Int).toNat) 0) = false := g
  rw [ev] at g2
  have g2 : qv a b d k = raw l k := by simpa using g2
  refine ⟨⟨k + 1, by show k + 1 ≤ l.length; omega, fun i hi => ?_⟩, by show l.length - (k + 1) < l.length - k; omega, th [] 2, rfl, rfl, rfl, rfl, rfl, rfl, ?_, ?_⟩
  · by_cases e : i = k
    · subst e; exact g2
    · exact hm i (by omega)
  · (repeat' first | exact trivial | exact rfl | refine And.intro ?_ ?_)
    exact (wrap_nat k (by omega)).symm
  · (repeat' first | exact trivial | exact rfl | refine And.intro ?_ ?_)
theorem Fits_pre (a b d : Int) (l : List Int) (n : Nat) (h : Qv a b d) (hn : n ≤ l.length) (hn2 : n ≤ 4000) : SemF Try.prog 19 [.agg (QA a b d), .slc 0 1 0 n] ⟨1, 1, DV l⟩ (fun v _ => v = .test (decide (Ft a b d (l.take n))) ∧ nameless v = true) := by
  have h := fits_ok a b d (l.take n) h (by rw [tk_len hn]; omega)
  rw [tk_len hn] at h
  exact weak h rfl rfl (pre_dv hn)
theorem before_ok (a b d a' b' d' : Int) (h : Qv a b d) (h' : Qv a' b' d') : SemF Try.prog 20 [.agg (QA a b d), .agg (QA a' b' d')] ⟨0, 0, []⟩ (fun v _ => v = .test (decide (Bfr a b d a' b' d')) ∧ nameless v = true) := by
  have a1 := h.2.1.1; have a2 := h.2.1.2; have a3 := h'.2.1.1; have a4 := h'.2.1.2
  refine SemF.test ?_
  refine enter tt_ok Try.func20 (nt := 48) (cd := body Try.f20) rfl rfl rfl rfl ?_
  intro _; refine ⟨fun g => ?_, fun g => ?_⟩
  · have g : (d != d') = true := g
    have g : d ≠ d' := by simpa using g
    intro _
    refine ⟨_, .inr rfl, ?_, rfl⟩
    unfold Bfr; simp only [if_pos g]
  have gd : (d != d') = false := g
  have gd : d = d' := by simpa using gd
  intro _
  refine Or.inl ?_
  intro _
  refine call_pure [] (abs_ok a ⟨by omega, by omega⟩) rfl rfl rfl ?_ ?_ ?_
  · (repeat' first | exact trivial | exact rfl | refine And.intro ?_ ?_)
  · (repeat' first | exact trivial | exact rfl | refine And.intro ?_ ?_)
  intro v hv _
  subst hv
  intro _
  refine Or.inl ?_
  intro _
  refine call_pure [] (abs_ok a' ⟨by omega, by omega⟩) rfl rfl rfl ?_ ?_ ?_
  · (repeat' first | exact trivial | exact rfl | refine And.intro ?_ ?_)
  · (repeat' first | exact trivial | exact rfl | refine And.intro ?_ ?_)
  intro v hv _
  subst hv
  intro _; refine ⟨by kernel_rfl, ?_⟩
  intro _; refine ⟨fun g => ?_, fun g => ?_⟩
  · have g2 : (max a (-a) != max a' (-a')) = true := g
    have g2 : max a (-a) ≠ max a' (-a') := by simpa using g2
    intro _
    refine Or.inl ?_
    intro _
    refine call_pure [] (abs_ok a ⟨by omega, by omega⟩) rfl rfl rfl ?_ ?_ ?_
    · (repeat' first | exact trivial | exact rfl | refine And.intro ?_ ?_)
    · (repeat' first | exact trivial | exact rfl | refine And.intro ?_ ?_)
    intro v hv _
    subst hv
    intro _
    refine Or.inl ?_
    intro _
    refine call_pure [] (abs_ok a' ⟨by omega, by omega⟩) rfl rfl rfl ?_ ?_ ?_
    · (repeat' first | exact trivial | exact rfl | refine And.intro ?_ ?_)
    · (repeat' first | exact trivial | exact rfl | refine And.intro ?_ ?_)
    intro v hv _
    subst hv
    intro _; refine ⟨by kernel_rfl, ?_⟩
    intro _
    refine ⟨_, .inr rfl, ?_, rfl⟩
    unfold Bfr; simp only [if_neg (fun q : d ≠ d' => q gd), if_pos g2]
  have g2 : (max a (-a) != max a' (-a')) = false := g
  have g2 : max a (-a) = max a' (-a') := by simpa using g2
  have e0 : Bfr a b d a' b' d' ↔ a < a' ∨ (a = a' ∧ b < b') := by unfold Bfr; rw [if_neg (fun q : d ≠ d' => q gd), if_neg (fun q : max a (-a) ≠ max a' (-a') => q g2)]
  intro _; refine ⟨fun g => ?_, fun g => ?_⟩
  · have g3 := of_decide_eq_true (show decide (a < a') = true from g)
    intro _
    exact ⟨true, .inl rfl, by rw [decide_eq_true (e0.2 (.inl g3))], rfl⟩
  have g3 := of_decide_eq_false (show decide (a < a') = false from g)
  intro _; refine ⟨fun g => ?_, fun g => ?_⟩
  · have g4 := beq_iff_eq.1 (show (a == a') = true from g)
    intro _
    refine ⟨_, .inr rfl, ?_, rfl⟩
    have : decide (Bfr a b d a' b' d') = decide (b < b') := by
      by_cases q : b < b'
      · rw [decide_eq_true q, decide_eq_true (e0.2 (.inr ⟨g4, q⟩))]
      · rw [decide_eq_false q, decide_eq_false (fun k => (e0.1 k).elim g3 (fun k => q k.2))]
    rw [this]
  have g4 := beq_eq_false_iff_ne.1 (show (a == a') = false from g)
  intro _
  exact ⟨false, .inl rfl, by rw [decide_eq_false (fun k => (e0.1 k).elim g3 (fun k => g4 k.1))], rfl⟩
theorem law4 (l : List Int) (x y z : Int) (hl : l.length ≤ 9223372036854775807) (hz : 0 ≤ z ∧ z ≤ 255) : SemF Try.prog 4 [.slc 0 1 0 l.length, .int .i64 x, .int .i64 y, .int .u8 z] ⟨1, 1, [(0, .arr [.int .i64] .ro (.ints l))]⟩ (fun v _ => IsTrue v) := by
  obtain ⟨n, hnn⟩ : ∃ n, n = min l.length 300 := ⟨_, rfl⟩
  have hn : n ≤ l.length := by omega
  refine enter tt_ok Try.func4 (nt := 74) (cd := body Try.f4) rfl rfl rfl rfl ?_
  intro _
  refine head_ok rfl Try.func7 (cd := body Try.f7) rfl ?_
  intro _
  refine enter tt_ok Try.func18 (nt := 12) (cd := body Try.f18) rfl rfl rfl rfl ?_
  intro _; refine ⟨⟨by omega, by omega, by omega⟩, ?_⟩
  intro _
  have eN : (min ((l.length : Nat) : Int) 300 - 0).toNat = n := by omega
  refine call_pure [(0, some 0)] (Vals_pre l n hn hl) rfl rfl rfl ?_ ?_ ?_
  · (repeat' first | exact trivial | exact rfl | refine And.intro ?_ ?_)
  · (repeat' first | exact trivial | exact rfl | refine And.intro ?_ ?_)
    exact eN.symm
  intro v hv _
  subst hv
  intro _
  intro _; refine ⟨fun g => ?_, fun g => ?_⟩
  · intro _
    show true = true
    rfl
  have g : (!decide (Vls (l.take n))) = false := g
  rw [Bool.not_eq_false'] at g
  have hV := of_decide_eq_true g
  have hLl : (l.take n).length = n := tk_len hn
  have hn1 : 1 ≤ n := by have := hV.2.1; omega
  have hC := hV.1
  intro _
  refine call_pure [(0, some 0)] (Fit_pre l n hn hl) rfl rfl rfl ?_ ?_ ?_
  · (repeat' first | exact trivial | exact rfl | refine And.intro ?_ ?_)
  · (repeat' first | exact trivial | exact rfl | refine And.intro ?_ ?_)
    exact eN.symm
  intro v hv _
  have hv0 := hv
  have hb : ∀ {A B D : Int}, Qv A B D → Ft A B D (l.take n) → _ := fun hq hf => best hC (by omega) (by omega) hv0 hq hf
  obtain ⟨D, hD⟩ : ∃ D, D = IntKind.i64.wrap (1 + (IntKind.i64.wrap z).tmod 16) := ⟨_, rfl⟩
  rcases fit_forms hC (by omega) (by omega) hv with ⟨a, b, d, rfl, hq, hf⟩ | rfl
  · intro _; refine ⟨fun g => ?_, fun g => ?_⟩
    · exact absurd (show ((0 : Int) != 0) = true from g) (by decide)
    intro _
    refine call_pure [] (rvalid_ok a b d) rfl rfl rfl ?_ ?_ ?_
    · (repeat' first | exact trivial | exact rfl | refine And.intro ?_ ?_)
    · (repeat' first | exact trivial | exact rfl | refine And.intro ?_ ?_)
    intro v hv _
    subst hv
    intro _; refine ⟨fun g => ?_, fun g => ?_⟩
    · exact absurd (show (!decide (Qv a b d)) = true from g) (by simp [hq])
    intro _
    refine call_pure [(0, some 0)] (Fits_pre a b d l n hq hn (by omega)) rfl rfl rfl ?_ ?_ ?_
    · (repeat' first | exact trivial | exact rfl | refine And.intro ?_ ?_)
    · (repeat' first | exact trivial | exact rfl | refine And.intro ?_ ?_)
      exact eN.symm
    intro v hv _
    subst hv
    intro _; refine ⟨fun g => ?_, fun g => ?_⟩
    · exact absurd (show (!decide (Ft a b d (l.take n))) = true from g) (by simp [hf])
    intro _; refine ⟨by decide, ?_⟩
    intro _
    refine call_pure [] (rvalid_ok x y D) rfl rfl rfl ?_ ?_ ?_
    · (repeat' first | exact trivial | exact rfl | refine And.intro ?_ ?_)
    · (repeat' first | exact trivial | exact rfl | refine And.intro ?_ ?_)
      exact hD
    intro v hv _
    subst hv
    intro _; refine ⟨fun g => ?_, fun g => ?_⟩
    · intro _
      show true = true
      rfl
    have g2 : (!decide (Qv x y D)) = false := g
    rw [Bool.not_eq_false'] at g2
    have hq2 := of_decide_eq_true g2
    intro _
    refine call_pure [(0, some 0)] (Fits_pre x y D l n hq2 hn (by omega)) rfl rfl rfl ?_ ?_ ?_
    · (repeat' first | exact trivial | exact rfl | refine And.intro ?_ ?_)
    · (repeat' first | exact trivial | exact rfl | refine And.intro ?_ ?_)
      exact hD
      exact eN.symm
    intro v hv _
    subst hv
    intro _; refine ⟨fun g => ?_, fun g => ?_⟩
    · intro _
      show true = true
      rfl
    have g3 : (!decide (Ft x y D (l.take n))) = false := g
    rw [Bool.not_eq_false'] at g3
    have hf2 := of_decide_eq_true g3
    obtain ⟨a2, b2, d2, e2, _, _, hnb⟩ := hb hq2 hf2
    simp only [V.tup.injEq, List.cons.injEq, V.agg.injEq, V.int.injEq, true_and, and_true] at e2
    obtain ⟨rfl, rfl, rfl⟩ := e2
    intro _
    refine call_pure [] (before_ok x y D a b d hq2 hq) rfl rfl rfl ?_ ?_ ?_
    · (repeat' first | exact trivial | exact rfl | refine And.intro ?_ ?_)
    · (repeat' first | exact trivial | exact rfl | refine And.intro ?_ ?_)
      exact hD
    intro v hv _
    subst hv
    intro _
    show (!decide (Bfr x y D a b d)) = true
    simp [hnb]
  · intro _; refine ⟨fun g => ?_, fun g => ?_⟩
    · exact absurd (show ((0 : Int) != 0) = true from g) (by decide)
    intro _; refine ⟨by decide, ?_⟩
    intro _
    refine call_pure [] (rvalid_ok x y D) rfl rfl rfl ?_ ?_ ?_
    · (repeat' first | exact trivial | exact rfl | refine And.intro ?_ ?_)
    · (repeat' first | exact trivial | exact rfl | refine And.intro ?_ ?_)
      exact hD
    intro v hv _
    subst hv
    intro _; refine ⟨fun g => ?_, fun g => ?_⟩
    · intro _
      show true = true
      rfl
    have g2 : (!decide (Qv x y D)) = false := g
    rw [Bool.not_eq_false'] at g2
    have hq2 := of_decide_eq_true g2
    intro _
    refine call_pure [(0, some 0)] (Fits_pre x y D l n hq2 hn (by omega)) rfl rfl rfl ?_ ?_ ?_
    · (repeat' first | exact trivial | exact rfl | refine And.intro ?_ ?_)
    · (repeat' first | exact trivial | exact rfl | refine And.intro ?_ ?_)
      exact hD
      exact eN.symm
    intro v hv _
    subst hv
    intro _; refine ⟨fun g => ?_, fun g => ?_⟩
    · intro _
      show true = true
      rfl
    have g3 : (!decide (Ft x y D (l.take n))) = false := g
    rw [Bool.not_eq_false'] at g3
    have hf2 := of_decide_eq_true g3
    obtain ⟨a2, b2, d2, e2, _, _, hnb⟩ := hb hq2 hf2
    exact absurd e2 (by simp)

theorem walk (w : World) (v_l : Value) (s_l : Src) (l : List Int) (cap_l : Nat) (hk_l : s_l.ks = [.int .i64]) (ha_l : s_l.ac = .ints l) (hs_l : s_l.lies w) (hn_l : s_l.at_ = none → l.length = 0) (hc_l : l.length ≤ cap_l) (hv_l : v_l = s_l.val cap_l) (hm_l : l.length ≤ maxLen) (w_l : ∀ n ∈ l, (Lit.int .i64 n).wf = true) (u1 : Int) (w_u1 : (Lit.int .i64 u1).wf = true) (u2 : Int) (w_u2 : (Lit.int .i64 u2).wf = true) (u3 : Int) (w_u3 : (Lit.int .u8 u3).wf = true) :
    Calls Try.prog 4 #[v_l, .int .i64 u1, .int .i64 u2, .int .u8 u3] w fun e w' => e = .returned (.bool true) ∧ Below w.heap.size w w' := by
  obtain ⟨at_l, ks_l, ac_l⟩ := s_l
  simp only [] at hk_l ha_l
  subst hk_l ha_l
  have h_l : l.length ≤ 9223372036854775807 := by unfold maxLen at hm_l; omega
  have b_u1 := w_u1
  simp [Lit.wf, IntKind.min, IntKind.max, IntKind.signed, IntKind.bits] at b_u1
  have b_u2 := w_u2
  simp [Lit.wf, IntKind.min, IntKind.max, IntKind.signed, IntKind.bits] at b_u2
  have b_u3 := w_u3
  simp [Lit.wf, IntKind.min, IntKind.max, IntKind.signed, IntKind.bits] at b_u3
  exact top_run (by kernel_rfl) (by kernel_rfl) (T := [7]) (fun f hf w => by
      rcases List.mem_cons.1 hf with e | e
      · subst e; exact head w
      · exact (List.not_mem_nil e).elim) (l := [⟨at_l, [.int .i64], .ints l⟩]) (args := [.slc 0 1 0 l.length, .int .i64 u1, .int .i64 u2, .int .u8 u3]) («as» := [Src.av 0 cap_l ⟨at_l, [.int .i64], .ints l⟩, .int .i64 u1, .int .i64 u2, .int .u8 u3]) (cargs := [v_l, .int .i64 u1, .int .i64 u2, .int .u8 u3]) w
    (fun s h => by
      rcases List.mem_cons.1 h with e | h
      · subst e; exact hs_l
      · exact (List.not_mem_nil h).elim)
    (Cvs.cons (src_cv (s := ⟨at_l, [.int .i64], .ints l⟩) rfl 1 hc_l hn_l) (Cvs.cons mk_int (Cvs.cons mk_int (Cvs.cons mk_int Cvs.nil))))
    (by simp only [Go.Vm.convs, Go.Vm.conv]; rw [src_conv (j := 0) (s := ⟨at_l, [.int .i64], .ints l⟩) rfl, hv_l])
    (law4 _ _ _ _ h_l b_u3)

set_option maxRecDepth 100000 in
theorem lifted (os : Os) (started : os.Started) (H : Type) (enc : TypeId × Value → H) :
    ReturnsInHanded {} Try.checked os 4 .any (Rows.quotFitsSpec.pre6 enc Try.prog Try.f4 Rows.quotFitsRow.domain false) (Rows.quotFitsSpec.post enc Try.prog Try.f4 false true false false) := by
  refine returnsInHanded_of_change (C := Try.checked) own started (by kernel_rfl) Try.func4
    (ChangeSpec.witness6 (enc := enc) (C := Try.checked) false ⟨#[], #[.slice none 0 0, .int .i64 0, .int .i64 0, .int .u8 0], []⟩ 8 (by kernel_rfl) (by kernel_rfl) (by kernel_rfl) (by kernel_rfl)) ?_
  intro W base args ds gs before hval0 hW hcnd _
  have hval : ∀ (j : Nat) t v, Try.f4.params[j]? = some t → args[j]? = some v → Value.okWide Try.prog W .any base t v := hval0
  have hW' := hW
  obtain ⟨p, q, hA0, hV, rfl, hfz, hnd⟩ := hW
  have hA : DataW.TrodAll enc Try.prog W 0 (fun _ => true) true Try.f4.params.toList args.toList ds p := hA0
  rw [Try.params4] at hA hval
  obtain ⟨v0, vs0, d0, ds0, p0, q0, hargs, rfl, rfl, h0, r0⟩ := trodAll_cons hA
  obtain ⟨v1, vs1, d1, ds1, p1, q1, rfl, rfl, rfl, h1, r1⟩ := trodAll_cons r0
  obtain ⟨v2, vs2, d2, ds2, p2, q2, rfl, rfl, rfl, h2, r2⟩ := trodAll_cons r1
  obtain ⟨v3, vs3, d3, ds3, p3, q3, rfl, rfl, rfl, h3, r3⟩ := trodAll_cons r2
  obtain ⟨rfl, rfl, rfl⟩ := trodAll_nil r3
  obtain rfl : args = #[v0, v1, v2, v3] := by cases args; simp_all
  obtain ⟨rfl, rfl⟩ := trodVars_none hV
  obtain ⟨s_l, l, cap_l, hk_l, ha_l, hs_l, hn_l, hc_l, hv_l, hm_l, w_l⟩ := Go.Vm2.open_list Try.underlying24 Try.underlying3 (by kernel_rfl) (hval 0 24 v0 rfl rfl) h0
  have hlt0 : ∀ x ∈ p0, x.block < W.heap.size := fun x hx => by simpa using hW'.lt x (by simp [hx])
  obtain ⟨u1, rfl, rfl, rfl, w_u1⟩ := open_int Try.underlying3 (hval 1 3 v1 rfl rfl) h1
  obtain ⟨u2, rfl, rfl, rfl, w_u2⟩ := open_int Try.underlying3 (hval 2 3 v2 rfl rfl) h2
  obtain ⟨u3, rfl, rfl, rfl, w_u3⟩ := open_int Try.underlying5 (hval 3 5 v3 rfl rfl) h3
  clear hA0 hval0
  refine (walk W v0 s_l l cap_l hk_l ha_l hs_l hn_l hc_l hv_l hm_l w_l u1 w_u1 u2 w_u2 u3 w_u3).mono fun e W' ⟨he, hg⟩ => ?_
  subst he
  exact ⟨_, rfl, _, _, _, [], _, [], hW', trodAll_cons_mk (shut_bool Try.underlying4 _) trodAll_mk0, (trodAll_cons_mk (Below.trod laidOut (by kernel_rfl) (of_decide_eq_true (by kernel_rfl)) h0 hg hlt0) (trodAll_cons_mk (shut_int Try.underlying3 w_u1) (trodAll_cons_mk (shut_int Try.underlying3 w_u2) (trodAll_cons_mk (shut_int Try.underlying5 w_u3) trodAll_mk0)))), rfl, hg.frame _, fun h => by cases h⟩

theorem over : Rows.quotFitsRow.holds Try.pinned (OpenSpec.ofChange Rows.quotFitsSpec) :=
  OpenClaim.holds_of_wide 4 Try.f4 rfl rfl rfl rfl rfl rfl rfl ⟨rfl, rfl, rfl, rfl, rfl⟩ rfl rfl rfl rfl rfl (by kernel_rfl) Try.func4 (by kernel_rfl)
    (of_decide_eq_true (by kernel_rfl)) (by unfold Func.isWrapper; first | (rw [if_pos (by decide +kernel)]; kernel_rfl) | (rw [if_neg (by decide +kernel)]; exact ⟨rfl, rfl⟩))
    (fun os started H enc _ => lifted os started H enc)

/-- the statement -/
theorem proved : Rows.QuotFitsSaid :=
  over
#print axioms proved
end Go.Proofs.Ytpodfpoaplnheaa.quotFits
