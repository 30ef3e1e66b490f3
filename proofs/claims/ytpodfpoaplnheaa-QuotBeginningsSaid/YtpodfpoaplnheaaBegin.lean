/-
  QuotBeginnings: whatever the arguments, the law returns true, and its arguments read as before. No conditions.
-/
import Derived.Test.YtpodfpoaplnheaaRows
import Derived.Test.YtpodfpoaplnheaaVwOpen2
import Derived.Test.YtpodfpoaplnheaaVwRules7
import Derived.Test.YtpodfpoaplnheaaVmFast3
import Derived.WalkKit
import Derived.ProofKit
import Derived.OpenShut
import Derived.Carry
import Derived.Test.YtpodfpoaplnheaaHead
import Derived.Test.YtpodfpoaplnheaaSrtA
import Derived.Test.YtpodfpoaplnheaaSrtB
import Derived.Test.YtpodfpoaplnheaaSrtC
namespace Go.Proofs.Ytpodfpoaplnheaa.quotBeginnings
open Go.ChangeShapes Go.WideShapes Go.ChangeAt Go.RowKit
open Go.Vm (Facts Val Sound)
open Go.Vm2
set_option linter.unusedVariables false
set_option linter.unusedSectionVars false

open Go.Proofs.Ytpodfpoaplnheaa.srt
theorem own : ownKnob Try.prog.godebug = none := by kernel_rfl
theorem laidOut : laidOutB Try.prog = true := by kernel_rfl
set_option maxRecDepth 100000
theorem Kx_inj2 {a b : Int} (h : Kx a = Kx b) : a = b := by
  unfold Kx at h
  split at h <;> split at h <;> omega
theorem FitR.uniq {l : List Int} {v w : V} (h : FitR l v) (k : FitR l w) : v = w := by
  unfold FitR at h k
  split at h
  · rename_i c; rw [if_pos c] at k; rw [h, k]
  rename_i c
  rw [if_neg c] at k
  split at h
  · rename_i c2; rw [if_pos c2] at k; rw [h, k]
  rename_i c2
  rw [if_neg c2] at k
  rcases h with ⟨d, a, hd, ha, hf, hb, hm, rfl⟩ | ⟨hb, rfl⟩
  · rcases k with ⟨d', a', hd', ha', hf', hb', hm', rfl⟩ | ⟨hb', rfl⟩
    · have ed : d = d' := by
        rcases Int.lt_trichotomy d d' with q | q | q
        · exact absurd hf (hb' d a hd.1 q ha)
        · exact q
        · exact absurd hf' (hb d' a' hd'.1 q ha')
      subst ed
      have ea : a = a' := by
        rcases Int.lt_trichotomy (Kx a) (Kx a') with q | q | q
        · exact absurd hf (hm' a ha q)
        · exact Kx_inj2 q
        · exact absurd hf' (hm a' ha' q)
      subst ea
      rfl
    · exact absurd hf (hb' d a hd.1 (by omega) ha)
  · rcases k with ⟨d', a', hd', ha', hf', hb', hm', rfl⟩ | ⟨hb', rfl⟩
    · exact absurd hf' (hb d' a' hd'.1 (by omega) ha')
    · rfl
theorem FitR.form {l : List Int} {v : V} (h : FitR l v) : ∃ a b d f e, v = .tup [QV a b d, .bool f, .int .i64 e] := by
  unfold FitR at h
  split at h
  · exact ⟨_, _, _, _, _, h⟩
  split at h
  · exact ⟨_, _, _, _, _, h⟩
  rcases h with ⟨d, a, _, _, _, _, _, rfl⟩ | ⟨_, rfl⟩
  · exact ⟨_, _, _, _, _, rfl⟩
  · exact ⟨_, _, _, _, _, rfl⟩
theorem vd_bd2 {l : List Int} {d a : Int} (hC : AllC l) (hd : 1 ≤ d ∧ d ≤ 16) (ha : -40000000000 ≤ a ∧ a ≤ 40000000000) (hl : l.length ≤ 4000) {k : Nat} (hk : k < l.length) : (-16000000000 ≤ d * raw l k ∧ d * raw l k ≤ 16000000000) ∧ (-160000000000000 ≤ a * k ∧ a * k ≤ 160000000000000) := by
  have h := hC k hk
  have h1 := h.1; have h2 := h.2
  have a1 : d * (-1000000000) ≤ d * raw l k := Int.mul_le_mul_of_nonneg_left h1 (by omega)
  have a2 : d * raw l k ≤ d * 1000000000 := Int.mul_le_mul_of_nonneg_left h2 (by omega)
  have c1 : (-40000000000) * (k : Int) ≤ a * k := Int.mul_le_mul_of_nonneg_right ha.1 (by omega)
  have c2 : a * (k : Int) ≤ 40000000000 * k := Int.mul_le_mul_of_nonneg_right ha.2 (by omega)
  omega
theorem least_ok (l : List Int) (a d : Int) (hC : AllC l) (hd : 1 ≤ d ∧ d ≤ 16) (ha : -40000000000 ≤ a ∧ a ≤ 40000000000) (hl : l.length ≤ 4000) : SemF Try.prog 43 [.slc 0 1 0 l.length, .int .i64 a, .int .i64 d] ⟨1, 1, DV l⟩ (fun v _ => v = .tup [.int .i64 (lw l d a l.length), .test (decide (lw l d a l.length ≤ hw l d a l.length))] ∧ nameless v = true) := by
  refine enter tt_ok Try.func43 (nt := 48) (cd := body Try.f43) rfl rfl rfl rfl ?_
  intro _
  refine loop2 tt_ok [8, 9, 10] [] 1 (fun k : { k : Nat // k ≤ l.length } => [(8, .int .i64 (lw l d a k.1)), (9, .int .i64 (hw l d a k.1)), (10, .int .i64 (k.1 : Nat))]) (fun _ => []) (fun k => l.length - k.1) ⟨0, Nat.zero_le _⟩ ?_
  intro _
  refine ⟨⟨th [] 1, rfl, rfl, rfl, rfl, rfl, rfl, ?_, ?_⟩, ?_⟩
  · (repeat' first | exact trivial | exact rfl | refine And.intro ?_ ?_)
  · (repeat' first | exact trivial | exact rfl | refine And.intro ?_ ?_)
  intro ⟨k, hk⟩
  have hk : k ≤ l.length := hk
  intro _; refine ⟨fun g => ?_, fun g => ?_⟩
  rotate_left
  · have g := of_decide_eq_false (show decide ((k : Int) < (l.length : Int)) = false from g)
    have : k = l.length := by omega
    subst this
    intro _
    exact ⟨rfl, rfl⟩
  have g := of_decide_eq_true (show decide ((k : Int) < (l.length : Int)) = true from g)
  have vb := vd_bd2 hC hd ha hl (k := k) (by omega)
  have ev : l.getD (0 + ((k : Nat) : Int).toNat) 0 = raw l k := by rw [Nat.zero_add]; rfl
  intro _; refine ⟨show 0 ≤ (k : Int) ∧ (k : Int) < (l.length : Int) by omega, ?_⟩
  intro _; refine ⟨show 0 + (k : Int).toNat < l.length by omega, ?_⟩
  intro _; refine ⟨show 0 ≤ (k : Int) ∧ (k : Int) < (l.length : Int) by omega, ?_⟩
  intro _; refine ⟨show 0 + (k : Int).toNat < l.length by omega, ?_⟩
  refine ⟨⟨k + 1, by show k + 1 ≤ l.length; omega⟩, by show l.length - (k + 1) < l.length - k; omega, th [] 1, rfl, rfl, rfl, rfl, rfl, rfl, ?_, ?_⟩
  · (repeat' first | exact trivial | exact rfl | refine And.intro ?_ ?_)
    · show max (lw l d a k) (d * raw l k - a * k) = max (lw l d a k) (IntKind.i64.wrap (IntKind.i64.wrap (d * l.getD (0 + ((k : Nat) : Int).toNat) 0) - IntKind.i64.wrap (a * (k : Int))))
      rw [ev, wrapS (d * raw l k) ⟨by omega, by omega⟩, wrapS (a * (k : Int)) ⟨by omega, by omega⟩, wrapS _ ⟨by omega, by omega⟩]
    · show min (hw l d a k) (d * raw l k - a * k + d - 1) = min (hw l d a k) (IntKind.i64.wrap (IntKind.i64.wrap (IntKind.i64.wrap (IntKind.i64.wrap (d * l.getD (0 + ((k : Nat) : Int).toNat) 0) + d) - 1) - IntKind.i64.wrap (a * (k : Int))))
      rw [ev, wrapS (d * raw l k) ⟨by omega, by omega⟩, wrapS (a * (k : Int)) ⟨by omega, by omega⟩, wrapS (d * raw l k + d) ⟨by omega, by omega⟩, wrapS (d * raw l k + d - 1) ⟨by omega, by omega⟩, wrapS _ ⟨by omega, by omega⟩]
      have : d * raw l k - a * k + d - 1 = d * raw l k + d - 1 - a * k := by omega
      rw [this]
    · exact (wrap_nat k (by omega)).symm
  · (repeat' first | exact trivial | exact rfl | refine And.intro ?_ ?_)
theorem abs_ok (n : Int) (h : -4000000000000000000 ≤ n ∧ n ≤ 4000000000000000000) : SemF Try.prog 36 [.int .i64 n] ⟨0, 0, []⟩ (fun v _ => v = .int .i64 (max n (-n)) ∧ nameless v = true) := by
  refine enter tt_ok Try.func36 (nt := 7) (cd := body Try.f36) rfl rfl rfl rfl ?_
  intro _
  refine ⟨?_, rfl⟩
  show V.int .i64 (max n (IntKind.i64.wrap (0 - n))) = _
  rw [wrapS _ ⟨by omega, by omega⟩, Int.zero_sub]
theorem rfirst1_ok (l : List Int) (d : Int) (hC : AllC l) (h1 : l.length = 1) (hd : 1 ≤ d ∧ d ≤ 16) : SemF Try.prog 35 [.slc 0 1 0 l.length, .int .i64 d] ⟨1, 1, DV l⟩ (fun v _ => v = .tup [QV 0 (lw l d 0 l.length) d, .test (decide (lw l d 0 l.length ≤ hw l d 0 l.length))] ∧ nameless v = true) := by
  refine enter tt_ok Try.func35 (nt := 94) (cd := body Try.f35) rfl rfl rfl rfl ?_
  intro _; refine ⟨fun g => ?_, fun g => ?_⟩
  rotate_left
  · have g := beq_eq_false_iff_ne.1 (show ((l.length : Int) == 1) = false from g)
    omega
  intro _
  refine call_pure [(0, some 0)] (least_ok l 0 d hC hd ⟨by decide, by decide⟩ (by omega)) rfl rfl rfl ?_ ?_ ?_
  · (repeat' first | exact trivial | exact rfl | refine And.intro ?_ ?_)
  · (repeat' first | exact trivial | exact rfl | refine And.intro ?_ ?_)
  intro v hv _
  subst hv
  intro _
  exact ⟨rfl, rfl⟩
instance decFe (l : List Int) (d a : Int) : Decidable (Fe l d a) := inferInstanceAs (Decidable (_ ≤ _))
/-- the slopes of the reference that are tried before one -/
def Tr (l : List Int) (d lo a x : Int) : Prop := lo ≤ x ∧ x < a ∧ Cd x ∧ Fe l d x
def Bst (l : List Int) (d lo a : Int) : Option Int → Prop
  | none => ∀ x, ¬ Tr l d lo a x
  | some x => Tr l d lo a x ∧ ∀ y, Tr l d lo a y → Kx x ≤ Kx y
def oQ (l : List Int) (d : Int) : Option Int → List V
  | none => [.int .i64 0, .int .i64 0, .int .i64 0]
  | some x => [.int .i64 x, .int .i64 (lw l d x l.length), .int .i64 d]
def loS (l : List Int) (d : Int) : Int := -(fl (d - 1 - rise l d) (l.length - 1))
def hiS (l : List Int) (d : Int) : Int := fl (rise l d + d - 1) (l.length - 1)
theorem mem_slopes {l : List Int} {d x : Int} : x ∈ slopes l d ↔ loS l d ≤ x ∧ x ≤ hiS l d ∧ Cd x := by
  unfold slopes
  rw [mem_seqI]
  unfold cntS fromS untilS loS hiS Cd
  omega
theorem Bst.step_no {l : List Int} {d lo a : Int} {o : Option Int} (h : Bst l d lo a o) (k : Cd a → ¬ Fe l d a) : Bst l d lo (a + 1) o := by
  have back : ∀ y, Tr l d lo (a + 1) y → Tr l d lo a y := fun y ⟨h1, h2, h3, h4⟩ => ⟨h1, by
    by_cases e : y = a
    · subst e; exact absurd h4 (k h3)
    · omega, h3, h4⟩
  cases o with
  | none => exact fun x hx => h x (back x hx)
  | some x => exact ⟨⟨h.1.1, by have := h.1.2.1; omega, h.1.2.2⟩, fun y hy => h.2 y (back y hy)⟩
theorem Bst.step_new {l : List Int} {d lo a : Int} (h : Bst l d lo a none) (ha : lo ≤ a) (hc : Cd a) (hf : Fe l d a) : Bst l d lo (a + 1) (some a) := by
  refine ⟨⟨ha, by omega, hc, hf⟩, fun y ⟨h1, h2, h3, h4⟩ => ?_⟩
  by_cases e : y = a
  · subst e; exact Int.le_refl _
  · exact absurd ⟨h1, by omega, h3, h4⟩ (h y)
theorem Bst.step_better {l : List Int} {d lo a x : Int} (h : Bst l d lo a (some x)) (ha : lo ≤ a) (hc : Cd a) (hf : Fe l d a) (k : max a (-a) < max x (-x)) : Bst l d lo (a + 1) (some a) := by
  refine ⟨⟨ha, by omega, hc, hf⟩, fun y ⟨h1, h2, h3, h4⟩ => ?_⟩
  by_cases e : y = a
  · subst e; exact Int.le_refl _
  · have q := h.2 y ⟨h1, by omega, h3, h4⟩
    unfold Kx at q ⊢
    split at q <;> split at q <;> split <;> omega
theorem Bst.step_keep {l : List Int} {d lo a x : Int} (h : Bst l d lo a (some x)) (k : ¬ max a (-a) < max x (-x)) : Bst l d lo (a + 1) (some x) := by
  refine ⟨⟨h.1.1, by have := h.1.2.1; omega, h.1.2.2⟩, fun y ⟨h1, h2, h3, h4⟩ => ?_⟩
  by_cases e : y = a
  · have hx := h.1.2.1
    subst e
    unfold Kx
    split <;> split <;> omega
  · exact h.2 y ⟨h1, by omega, h3, h4⟩
theorem rfirst_ok (l : List Int) (d : Int) (hC : AllC l) (h1 : 2 ≤ l.length) (hl : l.length ≤ 4000) (hd : 1 ≤ d ∧ d ≤ 16) : SemF Try.prog 35 [.slc 0 1 0 l.length, .int .i64 d] ⟨1, 1, DV l⟩ (fun v _ => (∃ o, Bst l d (loS l d) (max (loS l d) (hiS l d + 1)) o ∧ v = .tup [.agg (oQ l d o), .bool o.isSome]) ∧ nameless v = true) := by
  have rb := rise_bd hC h1 hd
  have eL : IntKind.i64.wrap ((l.length : Int) - 1) = (l.length : Int) - 1 := wrapS _ ⟨by omega, by omega⟩
  have va := hC (l.length - 1) (by omega)
  have vb := hC 0 (by omega)
  have va1 := va.1; have va2 := va.2; have vb1 := vb.1; have vb2 := vb.2
  have f1 := fl_bd (d - 1 - rise l d) (l.length - 1) (by omega) 33000000000 ⟨by omega, by omega⟩
  have f2 := fl_bd (rise l d + d - 1) (l.length - 1) (by omega) 33000000000 ⟨by omega, by omega⟩
  have b1 : -33000000001 ≤ loS l d ∧ loS l d ≤ 33000000001 := by unfold loS; omega
  have b2 : -33000000001 ≤ hiS l d ∧ hiS l d ≤ 33000000001 := by unfold hiS; omega
  refine enter tt_ok Try.func35 (nt := 94) (cd := body Try.f35) rfl rfl rfl rfl ?_
  intro _; refine ⟨fun g => ?_, fun g => ?_⟩
  · have g := beq_iff_eq.1 (show ((l.length : Int) == 1) = true from g)
    omega
  intro _; refine ⟨show 0 ≤ IntKind.i64.wrap ((l.length : Int) - 1) ∧ IntKind.i64.wrap ((l.length : Int) - 1) < (l.length : Int) by rw [eL]; omega, ?_⟩
  intro _; refine ⟨show 0 + (IntKind.i64.wrap ((l.length : Int) - 1)).toNat < l.length by rw [eL]; omega, ?_⟩
  intro _; refine ⟨show 0 ≤ (0 : Int) ∧ (0 : Int) < (l.length : Int) by omega, ?_⟩
  intro _; refine ⟨show 0 + (0 : Int).toNat < l.length by show 0 + 0 < l.length; omega, ?_⟩
  intro _; refine ⟨by kernel_rfl, ?_⟩
  have eV : l.getD (0 + (IntKind.i64.wrap ((l.length : Int) - 1)).toNat) 0 = raw l (l.length - 1) := by
    rw [eL, Nat.zero_add, show ((l.length : Int) - 1).toNat = l.length - 1 by omega]; rfl
  have eW : l.getD (0 + (0 : Int).toNat) 0 = raw l 0 := rfl
  obtain ⟨R, hR⟩ : ∃ R, R = IntKind.i64.wrap (d * IntKind.i64.wrap (l.getD (0 + (IntKind.i64.wrap ((l.length : Int) - 1)).toNat) 0 - l.getD (0 + (0 : Int).toNat) 0)) := ⟨_, rfl⟩
  have eR : R = rise l d := by
    rw [hR, eV, eW, wrapS (raw l (l.length - 1) - raw l 0) ⟨by omega, by omega⟩]
    show IntKind.i64.wrap (rise l d) = rise l d
    rw [wrapS _ ⟨by omega, by omega⟩]
  intro _
  refine call_pure [] (rfloor_ok (d - 1 - rise l d) (l.length - 1) (by omega) ⟨by omega, by omega⟩) rfl rfl rfl ?_ ?_ ?_
  · (repeat' first | exact trivial | exact rfl | refine And.intro ?_ ?_)
  · (repeat' first | exact trivial | exact rfl | refine And.intro ?_ ?_)
    first | (refine Eq.trans ?_ (congrArg (fun r => IntKind.i64.wrap (0 - IntKind.i64.wrap (IntKind.i64.wrap (r - d) + 1))) hR); show _ = IntKind.i64.wrap (0 - IntKind.i64.wrap (IntKind.i64.wrap (R - d) + 1)); rw [eR, wrapS (rise l d - d) ⟨by omega, by omega⟩, wrapS (rise l d - d + 1) ⟨by omega, by omega⟩, wrapS _ ⟨by omega, by omega⟩]; omega) | exact eL.symm
    exact eL.symm
  intro v hv _
  subst hv
  intro _
  refine call_pure [] (rfloor_ok (rise l d + d - 1) (l.length - 1) (by omega) ⟨by omega, by omega⟩) rfl rfl rfl ?_ ?_ ?_
  · (repeat' first | exact trivial | exact rfl | refine And.intro ?_ ?_)
  · (repeat' first | exact trivial | exact rfl | refine And.intro ?_ ?_)
    first | (refine Eq.trans ?_ (congrArg (fun r => IntKind.i64.wrap (IntKind.i64.wrap (r + d) - 1)) hR); show _ = IntKind.i64.wrap (IntKind.i64.wrap (R + d) - 1); rw [eR, wrapS (rise l d + d) ⟨by omega, by omega⟩, wrapS _ ⟨by omega, by omega⟩]) | exact eL.symm
    exact eL.symm
  intro v hv _
  subst hv
  intro _
  refine loop2 tt_ok [13, 14] [2] 3 (fun p : { p : Int × Option Int // (loS l d ≤ p.1 ∧ p.1 ≤ max (loS l d) (hiS l d + 1)) ∧ Bst l d (loS l d) p.1 p.2 } => [(13, .bool p.1.2.isSome), (14, .int .i64 p.1.1)]) (fun p => [(2, .cells (oQ l d p.1.2))]) (fun p => (hiS l d + 1 - p.1.1).toNat) ⟨(loS l d, none), ⟨Int.le_refl _, by show loS l d ≤ _; omega⟩, fun x hx => by have h1 := hx.1; have h2 := hx.2.1; simp only at h2; omega⟩ ?_
  intro _
  refine ⟨⟨th [(2, some 2)] 3, rfl, rfl, rfl, rfl, rfl, rfl, ?_, ?_⟩, ?_⟩
  · (repeat' first | exact trivial | exact rfl | refine And.intro ?_ ?_)
    show loS l d = IntKind.i64.wrap (0 - fl (d - 1 - rise l d) (l.length - 1))
    rw [wrapS _ ⟨by omega, by omega⟩, Int.zero_sub]; rfl
  · (repeat' first | exact trivial | exact rfl | refine And.intro ?_ ?_)
  intro ⟨⟨a, o⟩, ⟨ha1, ha2⟩, hB⟩
  have ha1 : loS l d ≤ a := ha1
  have ha2 : a ≤ max (loS l d) (hiS l d + 1) := ha2
  have hB : Bst l d (loS l d) a o := hB
  intro _; refine ⟨fun g => ?_, fun g => ?_⟩
  rotate_left
  · have g := of_decide_eq_false (show decide (a ≤ hiS l d) = false from g)
    have hae : a = max (loS l d) (hiS l d + 1) := by omega
    subst hae
    cases o with
    | none =>
      intro _
      exact ⟨⟨none, hB, rfl⟩, rfl⟩
    | some x =>
      intro _
      exact ⟨⟨some x, hB, rfl⟩, rfl⟩
  have g := of_decide_eq_true (show decide (a ≤ hiS l d) = true from g)
  intro _
  refine call_pure [(0, some 0)] (least_ok l a d hC hd ⟨by omega, by omega⟩ hl) rfl rfl rfl ?_ ?_ ?_
  · (repeat' first | exact trivial | exact rfl | refine And.intro ?_ ?_)
  · (repeat' first | exact trivial | exact rfl | refine And.intro ?_ ?_)
  intro v hv _
  subst hv
  cases o with
  | none =>
    intro _; refine ⟨fun g => ?_, fun g => ?_⟩
    · have hf : Fe l d a := of_decide_eq_true (show decide (lw l d a l.length ≤ hw l d a l.length) = true from g)
      intro _
      refine Or.inl ?_
      intro _
      refine rcoord_test _ _ _ ?_
      intro _; refine ⟨fun g => ?_, fun g => ?_⟩
      · have hc := of_decide_eq_true (show decide (Cd a) = true from g)
        intro _; refine ⟨by kernel_rfl, ?_⟩
        refine ⟨⟨(a + 1, some a), ⟨by show loS l d ≤ a + 1; omega, by show a + 1 ≤ _; omega⟩, Bst.step_new hB ha1 hc hf⟩, by show (hiS l d + 1 - (a + 1)).toNat < (hiS l d + 1 - a).toNat; omega, th [(2, some 2)] 3, rfl, rfl, rfl, rfl, rfl, rfl, ?_, ?_⟩
        · (repeat' first | exact trivial | exact rfl | refine And.intro ?_ ?_)
          exact (wrapS (a + 1) ⟨by omega, by omega⟩).symm
        · (repeat' first | exact trivial | exact rfl | refine And.intro ?_ ?_)
      · have hc := of_decide_eq_false (show decide (Cd a) = false from g)
        intro _; refine ⟨by kernel_rfl, ?_⟩
        refine ⟨⟨(a + 1, none), ⟨by show loS l d ≤ a + 1; omega, by show a + 1 ≤ _; omega⟩, Bst.step_no hB (fun q => absurd q hc)⟩, by show (hiS l d + 1 - (a + 1)).toNat < (hiS l d + 1 - a).toNat; omega, th [(2, some 2)] 3, rfl, rfl, rfl, rfl, rfl, rfl, ?_, ?_⟩
        · (repeat' first | exact trivial | exact rfl | refine And.intro ?_ ?_)
          exact (wrapS (a + 1) ⟨by omega, by omega⟩).symm
        · (repeat' first | exact trivial | exact rfl | refine And.intro ?_ ?_)
    · have hf : ¬ Fe l d a := of_decide_eq_false (show decide (lw l d a l.length ≤ hw l d a l.length) = false from g)
      intro _; refine ⟨by kernel_rfl, ?_⟩
      refine ⟨⟨(a + 1, none), ⟨by show loS l d ≤ a + 1; omega, by show a + 1 ≤ _; omega⟩, Bst.step_no hB (fun _ => hf)⟩, by show (hiS l d + 1 - (a + 1)).toNat < (hiS l d + 1 - a).toNat; omega, th [(2, some 2)] 3, rfl, rfl, rfl, rfl, rfl, rfl, ?_, ?_⟩
      · (repeat' first | exact trivial | exact rfl | refine And.intro ?_ ?_)
        exact (wrapS (a + 1) ⟨by omega, by omega⟩).symm
      · (repeat' first | exact trivial | exact rfl | refine And.intro ?_ ?_)
  | some x =>
    have hx := hB.1.2.2.1
    have hx1 := hx.1; have hx2 := hx.2
    intro _; refine ⟨fun g => ?_, fun g => ?_⟩
    · have hf : Fe l d a := of_decide_eq_true (show decide (lw l d a l.length ≤ hw l d a l.length) = true from g)
      intro _
      refine Or.inl ?_
      intro _
      refine rcoord_test _ _ _ ?_
      intro _; refine ⟨fun g => ?_, fun g => ?_⟩
      · have hc := of_decide_eq_true (show decide (Cd a) = true from g)
        intro _
        refine Or.inl ?_
        intro _
        refine call_pure [] (abs_ok a ⟨by omega, by omega⟩) rfl rfl rfl ?_ ?_ ?_
        · (repeat' first | exact trivial | exact rfl | refine And.intro ?_ ?_)
        · (repeat' first | exact trivial | exact rfl | refine And.intro ?_ ?_)
        intro v hv _
        subst hv
        intro _
        refine Or.inl ?_
        intro _
        refine call_pure [] (abs_ok x ⟨by omega, by omega⟩) rfl rfl rfl ?_ ?_ ?_
        · (repeat' first | exact trivial | exact rfl | refine And.intro ?_ ?_)
        · (repeat' first | exact trivial | exact rfl | refine And.intro ?_ ?_)
        intro v hv _
        subst hv
        intro _; refine ⟨by kernel_rfl, ?_⟩
        intro _; refine ⟨fun g => ?_, fun g => ?_⟩
        · have g := of_decide_eq_true (show decide (max a (-a) < max x (-x)) = true from g)
          refine ⟨⟨(a + 1, some a), ⟨by show loS l d ≤ a + 1; omega, by show a + 1 ≤ _; omega⟩, Bst.step_better hB ha1 hc hf g⟩, by show (hiS l d + 1 - (a + 1)).toNat < (hiS l d + 1 - a).toNat; omega, th [(2, some 2)] 3, rfl, rfl, rfl, rfl, rfl, rfl, ?_, ?_⟩
          · (repeat' first | exact trivial | exact rfl | refine And.intro ?_ ?_)
            exact (wrapS (a + 1) ⟨by omega, by omega⟩).symm
          · (repeat' first | exact trivial | exact rfl | refine And.intro ?_ ?_)
        · have g := of_decide_eq_false (show decide (max a (-a) < max x (-x)) = false from g)
          refine ⟨⟨(a + 1, some x), ⟨by show loS l d ≤ a + 1; omega, by show a + 1 ≤ _; omega⟩, Bst.step_keep hB g⟩, by show (hiS l d + 1 - (a + 1)).toNat < (hiS l d + 1 - a).toNat; omega, th [(2, some 2)] 3, rfl, rfl, rfl, rfl, rfl, rfl, ?_, ?_⟩
          · (repeat' first | exact trivial | exact rfl | refine And.intro ?_ ?_)
            exact (wrapS (a + 1) ⟨by omega, by omega⟩).symm
          · (repeat' first | exact trivial | exact rfl | refine And.intro ?_ ?_)
      · have hc := of_decide_eq_false (show decide (Cd a) = false from g)
        intro _; refine ⟨by kernel_rfl, ?_⟩
        refine ⟨⟨(a + 1, some x), ⟨by show loS l d ≤ a + 1; omega, by show a + 1 ≤ _; omega⟩, Bst.step_no hB (fun q => absurd q hc)⟩, by show (hiS l d + 1 - (a + 1)).toNat < (hiS l d + 1 - a).toNat; omega, th [(2, some 2)] 3, rfl, rfl, rfl, rfl, rfl, rfl, ?_, ?_⟩
        · (repeat' first | exact trivial | exact rfl | refine And.intro ?_ ?_)
          exact (wrapS (a + 1) ⟨by omega, by omega⟩).symm
        · (repeat' first | exact trivial | exact rfl | refine And.intro ?_ ?_)
    · have hf : ¬ Fe l d a := of_decide_eq_false (show decide (lw l d a l.length ≤ hw l d a l.length) = false from g)
      intro _; refine ⟨by kernel_rfl, ?_⟩
      refine ⟨⟨(a + 1, some x), ⟨by show loS l d ≤ a + 1; omega, by show a + 1 ≤ _; omega⟩, Bst.step_no hB (fun _ => hf)⟩, by show (hiS l d + 1 - (a + 1)).toNat < (hiS l d + 1 - a).toNat; omega, th [(2, some 2)] 3, rfl, rfl, rfl, rfl, rfl, rfl, ?_, ?_⟩
      · (repeat' first | exact trivial | exact rfl | refine And.intro ?_ ?_)
        exact (wrapS (a + 1) ⟨by omega, by omega⟩).symm
      · (repeat' first | exact trivial | exact rfl | refine And.intro ?_ ?_)
theorem RFit_ok (l : List Int) (hl : l.length ≤ 9223372036854775807) : SemF Try.prog 15 [.slc 0 1 0 l.length] ⟨1, 1, DV l⟩ (fun v _ => FitR l v ∧ nameless v = true) := by
  refine enter tt_ok Try.func15 (nt := 31) (cd := body Try.f15) rfl rfl rfl rfl ?_
  intro _; refine ⟨fun g => ?_, fun g => ?_⟩
  · have g := of_decide_eq_true (show decide ((l.length : Int) > 4000) = true from g)
    intro _
    exact ⟨by unfold FitR; rw [if_pos (by omega)], rfl⟩
  have g1 := of_decide_eq_false (show decide ((l.length : Int) > 4000) = false from g)
  have no : l.length = 0 ∨ ¬ AllC l → FitR l (.tup [QV 0 0 0, .bool false, .int .i64 1]) ∧ nameless (.tup [QV 0 0 0, .bool false, .int .i64 1]) = true := fun h => ⟨by unfold FitR; rw [if_neg (by omega), if_pos h], rfl⟩
  intro _
  refine call_pure [(0, some 0)] (vals_ok l hl) rfl rfl rfl ?_ ?_ ?_
  · (repeat' first | exact trivial | exact rfl | refine And.intro ?_ ?_)
  · (repeat' first | exact trivial | exact rfl | refine And.intro ?_ ?_)
  intro v hv _
  subst hv
  intro _; refine ⟨fun g => ?_, fun g => ?_⟩
  · have g : (!decide (Vls l)) = true := g
    rw [Bool.not_eq_true'] at g
    have g := of_decide_eq_false g
    intro _
    refine no ?_
    by_cases e : l.length = 0
    · exact .inl e
    · exact .inr fun q => g ⟨q, by omega, by omega⟩
  have g2 : (!decide (Vls l)) = false := g
  rw [Bool.not_eq_false'] at g2
  have hV := of_decide_eq_true g2
  have hC := hV.1
  have hlen := hV.2.1
  have hl4 := hV.2.2
  intro _
  refine loop2 tt_ok [6] [] 2 (fun e : { e : Nat // (1 ≤ e ∧ e ≤ 17) ∧ Bef l e } => [(6, .int .i64 (e.1 : Nat))]) (fun _ => []) (fun e => 17 - e.1) ⟨1, ⟨by omega, by omega⟩, fun e a h1 h2 => by omega⟩ ?_
  intro _
  refine ⟨⟨th [] 2, rfl, rfl, rfl, rfl, rfl, rfl, ?_, ?_⟩, ?_⟩
  · (repeat' first | exact trivial | exact rfl | refine And.intro ?_ ?_)
  · (repeat' first | exact trivial | exact rfl | refine And.intro ?_ ?_)
  intro ⟨e, ⟨he1, he2⟩, hBe⟩
  intro _; refine ⟨fun g => ?_, fun g => ?_⟩
  rotate_left
  · have g := of_decide_eq_false (show decide ((e : Int) ≤ 16) = false from g)
    have : e = 17 := by omega
    subst this
    intro _
    exact ⟨by unfold FitR; rw [if_neg (by omega), if_neg (fun h => h.elim (fun q => by omega) (fun q => q hC))]; exact .inr ⟨hBe, rfl⟩, rfl⟩
  have g := of_decide_eq_true (show decide ((e : Int) ≤ 16) = true from g)
  have hd : 1 ≤ (e : Int) ∧ (e : Int) ≤ 16 := by omega
  have nxt : (∀ a, a ∈ SS l e → ¬ Fe l e a) → Bef l ((e + 1 : Nat) : Int) := fun k e' a h1 h2 h3 => by
    by_cases q : e' = e
    · rw [q]; rw [q] at h3; exact k a h3
    · exact hBe e' a h1 (by omega) h3
  have wE : ((e + 1 : Nat) : Int) = IntKind.i64.wrap ((e : Int) + 1) := by rw [wrapS _ ⟨by omega, by omega⟩]; omega
  intro _
  by_cases h1 : l.length = 1
  · have eS : SS l e = [0] := by unfold SS; rw [if_pos h1]
    refine call_pure [(0, some 0)] (rfirst1_ok l e hC h1 hd) rfl rfl rfl ?_ ?_ ?_
    · (repeat' first | exact trivial | exact rfl | refine And.intro ?_ ?_)
    · (repeat' first | exact trivial | exact rfl | refine And.intro ?_ ?_)
    intro v hv _
    subst hv
    intro _; refine ⟨fun g => ?_, fun g => ?_⟩
    · have hf := of_decide_eq_true (show decide (lw l e 0 l.length ≤ hw l e 0 l.length) = true from g)
      intro _
      refine ⟨?_, rfl⟩
      unfold FitR
      rw [if_neg (by omega), if_neg (fun h => h.elim (fun q => by omega) (fun q => q hC))]
      exact .inl ⟨e, 0, hd, by rw [eS]; simp, hf, hBe, fun a' h1' h2' => by
        rw [eS] at h1'
        have : a' = 0 := by simpa using h1'
        subst this
        exact absurd h2' (by omega), rfl⟩
    · have hf : ¬ Fe l e 0 := of_decide_eq_false (show decide (lw l e 0 l.length ≤ hw l e 0 l.length) = false from g)
      refine ⟨⟨e + 1, ⟨by omega, by omega⟩, nxt (fun a h => by
        rw [eS] at h
        have : a = 0 := by simpa using h
        subst this; exact hf)⟩, by show 17 - (e + 1) < 17 - e; omega, th [] 2, rfl, rfl, rfl, rfl, rfl, rfl, ?_, ?_⟩
      · (repeat' first | exact trivial | exact rfl | refine And.intro ?_ ?_)
        exact wE
      · (repeat' first | exact trivial | exact rfl | refine And.intro ?_ ?_)
  have eS : ∀ a, a ∈ SS l e ↔ loS l e ≤ a ∧ a ≤ hiS l e ∧ Cd a := fun a => by unfold SS; rw [if_neg h1, mem_slopes]
  refine call_pure [(0, some 0)] (rfirst_ok l e hC (by omega) hl4 hd) rfl rfl rfl ?_ ?_ ?_
  · (repeat' first | exact trivial | exact rfl | refine And.intro ?_ ?_)
  · (repeat' first | exact trivial | exact rfl | refine And.intro ?_ ?_)
  intro v hv _
  obtain ⟨o, hB, rfl⟩ := hv
  cases o with
  | none =>
    refine ⟨⟨e + 1, ⟨by omega, by omega⟩, nxt (fun a h hf => by
      have := (eS a).1 h
      exact hB a ⟨this.1, by omega, this.2.2, hf⟩)⟩, by show 17 - (e + 1) < 17 - e; omega, th [] 2, rfl, rfl, rfl, rfl, rfl, rfl, ?_, ?_⟩
    · (repeat' first | exact trivial | exact rfl | refine And.intro ?_ ?_)
      exact wE
    · (repeat' first | exact trivial | exact rfl | refine And.intro ?_ ?_)
  | some x =>
    intro _
    refine ⟨?_, rfl⟩
    unfold FitR
    rw [if_neg (by omega), if_neg (fun h => h.elim (fun q => by omega) (fun q => q hC))]
    have hx := hB.1
    exact .inl ⟨e, x, hd, (eS x).2 ⟨hx.1, by have := hx.1; have := hx.2.1; omega, hx.2.2.1⟩, hx.2.2.2, hBe, fun a' h1' h2' hf => by
      have q := (eS a').1 h1'
      have := hB.2 a' ⟨q.1, by omega, q.2.2, hf⟩
      omega, rfl⟩
theorem RFit_pre (l : List Int) (n : Nat) (hn : n ≤ l.length) (hl : l.length ≤ 9223372036854775807) : SemF Try.prog 15 [.slc 0 1 0 n] ⟨1, 1, DV l⟩ (fun v _ => FitR (l.take n) v ∧ nameless v = true) := by
  have h := RFit_ok (l.take n) (by rw [tk_len hn]; omega)
  rw [tk_len hn] at h
  exact weak h rfl rfl (pre_dv hn)
theorem fl_uniq {n d x r : Int} (hd : 1 ≤ d) (h1 : d * x ≤ n) (h2 : n < d * x + d) (k1 : d * r ≤ n) (k2 : n < d * r + d) : x = r := by
  rcases Int.lt_trichotomy x r with q | q | q
  · have := Int.mul_le_mul_of_nonneg_left (show x + 1 ≤ r by omega) (show 0 ≤ d by omega)
    rw [Int.mul_add, Int.mul_one] at this; omega
  · exact q
  · have := Int.mul_le_mul_of_nonneg_left (show r + 1 ≤ x by omega) (show 0 ≤ d by omega)
    rw [Int.mul_add, Int.mul_one] at this; omega
/-- a quotient fits a list -/
def Ft (a b d : Int) (l : List Int) : Prop := ∀ i, i < l.length → qv a b d i = raw l i
instance decFt (a b d : Int) (l : List Int) : Decidable (Ft a b d l) := inferInstanceAs (Decidable (∀ i, i < l.length → _))
theorem qv_iff {a b d r : Int} (hd : 1 ≤ d) (i : Nat) : qv a b d i = r ↔ d * r - a * i ≤ b ∧ b ≤ d * r - a * i + d - 1 := by
  have f := fl_spec (a * i + b) d hd
  unfold qv
  constructor
  · intro h; rw [h] at f; omega
  · intro h; exact fl_uniq hd f.1 f.2 (by omega) (by omega)
theorem lw_ge {l : List Int} {d a : Int} : ∀ {k i : Nat}, i < k → d * raw l i - a * i ≤ lw l d a k
  | k + 1, i, h => by
    by_cases e : i = k
    · subst e; simp only [lw]; omega
    · have := lw_ge (l := l) (d := d) (a := a) (k := k) (i := i) (by omega)
      simp only [lw]; omega
theorem hw_le {l : List Int} {d a : Int} : ∀ {k i : Nat}, i < k → hw l d a k ≤ d * raw l i - a * i + d - 1
  | k + 1, i, h => by
    by_cases e : i = k
    · subst e; simp only [hw]; omega
    · have := hw_le (l := l) (d := d) (a := a) (k := k) (i := i) (by omega)
      simp only [hw]; omega
theorem lw_min {l : List Int} {d a b : Int} (hb : -1000000000 ≤ b) : ∀ {k : Nat}, (∀ i : Nat, i < k → d * raw l i - a * i ≤ b) → lw l d a k ≤ b
  | 0, _ => hb
  | k + 1, h => by
    have h1 := lw_min hb (k := k) (fun i hi => h i (by omega))
    have h2 := h k (by omega)
    simp only [lw]; omega
theorem hw_max {l : List Int} {d a b : Int} (hb : b ≤ 1000000000) : ∀ {k : Nat}, (∀ i : Nat, i < k → b ≤ d * raw l i - a * i + d - 1) → b ≤ hw l d a k
  | 0, _ => hb
  | k + 1, h => by
    have h1 := hw_max hb (k := k) (fun i hi => h i (by omega))
    have h2 := h k (by omega)
    simp only [hw]; omega
theorem lw_lo (l : List Int) (d a : Int) (k : Nat) : -1000000000 ≤ lw l d a k := lw_mono l d a 0 k (Nat.zero_le _)
theorem hw_hi (l : List Int) (d a : Int) (k : Nat) : hw l d a k ≤ 1000000000 := hw_mono l d a 0 k (Nat.zero_le _)
theorem fe_ft {l : List Int} {d a : Int} (hd : 1 ≤ d) (h : Fe l d a) : Ft a (lw l d a l.length) d l ∧ Cd (lw l d a l.length) := by
  unfold Fe at h
  refine ⟨fun i hi => (qv_iff hd i).2 ⟨lw_ge hi, ?_⟩, lw_lo l d a _, ?_⟩
  · have := hw_le (l := l) (d := d) (a := a) hi
    omega
  · have := hw_hi l d a l.length
    omega
theorem ft_bd {l : List Int} {a b d : Int} (hq : Qv a b d) (h : Ft a b d l) : lw l d a l.length ≤ b ∧ b ≤ hw l d a l.length :=
  ⟨lw_min hq.2.2.1 fun i hi => ((qv_iff hq.1.1 i).1 (h i hi)).1, hw_max hq.2.2.2 fun i hi => ((qv_iff hq.1.1 i).1 (h i hi)).2⟩
theorem fl_ge {n d x : Int} (hd : 1 ≤ d) (h : d * x ≤ n) : x ≤ fl n d := by
  have f := fl_spec n d hd
  by_cases q : x ≤ fl n d
  · exact q
  · have := Int.mul_le_mul_of_nonneg_left (show fl n d + 1 ≤ x by omega) (show 0 ≤ d by omega)
    rw [Int.mul_add, Int.mul_one] at this; omega
theorem ft_mem {l : List Int} {a b d : Int} (hq : Qv a b d) (h : Ft a b d l) (hl : 2 ≤ l.length) : a ∈ SS l d := by
  have h0 := (qv_iff hq.1.1 0).1 (h 0 (by omega))
  have h1 := (qv_iff hq.1.1 (l.length - 1)).1 (h (l.length - 1) (by omega))
  have e : ((l.length - 1 : Nat) : Int) = (l.length : Int) - 1 := by omega
  rw [e] at h1
  have ez : a * ((0 : Nat) : Int) = 0 := by simp
  rw [ez] at h0
  have er : rise l d = d * raw l (l.length - 1) - d * raw l 0 := by unfold rise; rw [Int.mul_sub]
  have ec : ((l.length : Int) - 1) * a = a * ((l.length : Int) - 1) := Int.mul_comm _ _
  have en : ((l.length : Int) - 1) * (-a) = -(a * ((l.length : Int) - 1)) := by rw [Int.mul_neg, ec]
  unfold SS
  rw [if_neg (by omega), mem_slopes]
  have k1 : a ≤ hiS l d := by unfold hiS; exact fl_ge (by omega) (by rw [ec, er]; omega)
  have k2 : -a ≤ fl (d - 1 - rise l d) (l.length - 1) := fl_ge (by omega) (by rw [en, er]; omega)
  exact ⟨by unfold loS; omega, k1, hq.2.1⟩
theorem one_lw {l : List Int} (h1 : l.length = 1) (d a : Int) : lw l d a l.length = lw l d 0 l.length ∧ hw l d a l.length = hw l d 0 l.length := by
  rw [h1]; simp [lw, hw]
def Bfr (a b d a' b' d' : Int) : Prop :=
  if d ≠ d' then d < d' else if max a (-a) ≠ max a' (-a') then max a (-a) < max a' (-a') else a < a' ∨ (a = a' ∧ b < b')
instance decBfr (a b d a' b' d' : Int) : Decidable (Bfr a b d a' b' d') := by unfold Bfr; infer_instance
theorem best {l : List Int} (hC : AllC l) (h1 : 1 ≤ l.length) (hl : l.length ≤ 4000) {v : V} (hv : FitR l v) {A B D : Int} (hq : Qv A B D) (hf : Ft A B D l) :
    ∃ a b d, v = .tup [QV a b d, .bool true, .int .i64 0] ∧ Qv a b d ∧ Ft a b d l ∧ ¬ Bfr A B D a b d := by
  unfold FitR at hv
  rw [if_neg (by omega), if_neg (fun h => h.elim (fun q => by omega) (fun q => q hC))] at hv
  have hb := ft_bd hq hf
  have key : ∃ A', A' ∈ SS l D ∧ Fe l D A' := by
    by_cases e : l.length = 1
    · have o := one_lw e D A
      exact ⟨0, by unfold SS; rw [if_pos e]; simp, by unfold Fe; omega⟩
    · exact ⟨A, ft_mem hq hf (by omega), by unfold Fe; omega⟩
  obtain ⟨A', hA', hfA'⟩ := key
  rcases hv with ⟨d, a, hd, ha, hfe, hbe, hmin, rfl⟩ | ⟨hbe, rfl⟩
  · have ft := fe_ft hd.1 hfe
    refine ⟨a, _, d, rfl, ⟨hd, ?_, ft.2⟩, ft.1, ?_⟩
    · unfold SS at ha
      split at ha
      · simp at ha; subst ha; exact ⟨by decide, by decide⟩
      · exact slopes_bd l d a ha
    · unfold Bfr
      intro hB
      split at hB
      · exact hbe D A' hq.1.1 hB hA' hfA'
      · rename_i eD
        have eD : D = d := Decidable.of_not_not eD
        subst eD
        by_cases e : l.length = 1
        · have ea : a = 0 := by unfold SS at ha; rw [if_pos e] at ha; simpa using ha
          subst ea
          have o := one_lw e D A
          split at hB
          · omega
          · rename_i q
            rcases hB with hB | ⟨hB, hB2⟩
            · omega
            · omega
        · have hAm := ft_mem hq hf (by omega)
          have hk : ¬ Kx A < Kx a := fun q => hmin A hAm q (by unfold Fe; omega)
          split at hB
          · exact hk (by unfold Kx; split <;> split <;> omega)
          · rename_i q
            rcases hB with hB | ⟨hB, hB2⟩
            · exact hk (by unfold Kx; split <;> split <;> omega)
            · subst hB; omega
  · exact absurd hfA' (hbe D A' hq.1.1 (by have := hq.1.2; omega) hA')
theorem fit_forms {l : List Int} (hC : AllC l) (h1 : 1 ≤ l.length) (hl : l.length ≤ 4000) {v : V} (hv : FitR l v) :
    (∃ a b d, v = .tup [QV a b d, .bool true, .int .i64 0] ∧ Qv a b d ∧ Ft a b d l) ∨ v = .tup [QV 0 0 0, .bool false, .int .i64 0] := by
  unfold FitR at hv
  rw [if_neg (by omega), if_neg (fun h => h.elim (fun q => by omega) (fun q => q hC))] at hv
  rcases hv with ⟨d, a, hd, ha, hfe, hbe, hmin, rfl⟩ | ⟨hbe, rfl⟩
  · have ft := fe_ft hd.1 hfe
    refine .inl ⟨a, _, d, rfl, ⟨hd, ?_, ft.2⟩, ft.1⟩
    unfold SS at ha
    split at ha
    · simp at ha; subst ha; exact ⟨by decide, by decide⟩
    · exact slopes_bd l d a ha
  · exact .inr rfl
theorem fits_ok (a b d : Int) (l : List Int) (h : Qv a b d) (hl : l.length ≤ 4000) : SemF Try.prog 19 [.agg (QA a b d), .slc 0 1 0 l.length] ⟨1, 1, DV l⟩ (fun v _ => v = .test (decide (Ft a b d l)) ∧ nameless v = true) := by
  refine SemF.test ?_
  refine enter tt_ok Try.func19 (nt := 20) (cd := body Try.f19) rfl rfl rfl rfl ?_
  intro _
  refine loop2 tt_ok [5] [] 2 (fun k : { k : Nat // k ≤ l.length ∧ ∀ i, i < k → qv a b d i = raw l i } => [(5, .int .i64 (k.1 : Nat))]) (fun _ => []) (fun k => l.length - k.1) ⟨0, by omega, fun i h => by omega⟩ ?_
  intro _
  refine ⟨⟨th [] 2, rfl, rfl, rfl, rfl, rfl, rfl, ?_, ?_⟩, ?_⟩
  · (repeat' first | exact trivial | exact rfl | refine And.intro ?_ ?_)
  · (repeat' first | exact trivial | exact rfl | refine And.intro ?_ ?_)
  intro ⟨k, hk, hm⟩
  have hk : k ≤ l.length := hk
  intro _; refine ⟨fun g => ?_, fun g => ?_⟩
  rotate_left
  · have g := of_decide_eq_false (show decide ((k : Int) < (l.length : Int)) = false from g)
    have : k = l.length := by omega
    subst this
    intro _
    exact ⟨true, .inl rfl, by rw [decide_eq_true (show Ft a b d l from hm)], rfl⟩
  have g := of_decide_eq_true (show decide ((k : Int) < (l.length : Int)) = true from g)
  have ev : l.getD (0 + ((k : Nat) : Int).toNat) 0 = raw l k := by rw [Nat.zero_add]; rfl
  intro _
  refine Or.inl ?_
  intro _
  refine call_pure [] (value_ok a b d k h ⟨by omega, by omega⟩) rfl rfl rfl ?_ ?_ ?_
  · (repeat' first | exact trivial | exact rfl | refine And.intro ?_ ?_)
  · (repeat' first | exact trivial | exact rfl | refine And.intro ?_ ?_)
  intro v hv _
  subst hv
  intro _; refine ⟨show 0 ≤ (k : Int) ∧ (k : Int) < (l.length : Int) by omega, ?_⟩
  intro _; refine ⟨show 0 + (k : Int).toNat < l.length by omega, ?_⟩
  intro _; refine ⟨by kernel_rfl, ?_⟩
  intro _; refine ⟨fun g => ?_, fun g => ?_⟩
  · have g2 : (qv a b d k != l.getD (0 + ((k : Nat) : Int).toNat) 0) = true := g
    rw [ev] at g2
    have g2 : qv a b d k ≠ raw l k := by simpa using g2
    intro _
    exact ⟨false, .inl rfl, by rw [decide_eq_false (fun q : Ft a b d l => g2 (q k (by omega)))], rfl⟩
  have g2 : (qv a b d k != l.getD (0 + ((k : Nat) : Int).toNat) 0) = false := g
  rw [ev] at g2
  have g2 : qv a b d k = raw l k := by simpa using g2
  refine ⟨⟨k + 1, by show k + 1 ≤ l.length; omega, fun i hi => ?_⟩, by show l.length - (k + 1) < l.length - k; omega, th [] 2, rfl, rfl, rfl, rfl, rfl, rfl, ?_, ?_⟩
  · by_cases e : i = k
    · subst e; exact g2
    · exact hm i (by omega)
  · (repeat' first | exact trivial | exact rfl | refine And.intro ?_ ?_)
    exact (wrap_nat k (by omega)).symm
  · (repeat' first | exact trivial | exact rfl | refine And.intro ?_ ?_)
theorem Fits_pre (a b d : Int) (l : List Int) (n : Nat) (h : Qv a b d) (hn : n ≤ l.length) (hn2 : n ≤ 4000) : SemF Try.prog 19 [.agg (QA a b d), .slc 0 1 0 n] ⟨1, 1, DV l⟩ (fun v _ => v = .test (decide (Ft a b d (l.take n))) ∧ nameless v = true) := by
  have h := fits_ok a b d (l.take n) h (by rw [tk_len hn]; omega)
  rw [tk_len hn] at h
  exact weak h rfl rfl (pre_dv hn)
theorem before_ok (a b d a' b' d' : Int) (h : Qv a b d) (h' : Qv a' b' d') : SemF Try.prog 20 [.agg (QA a b d), .agg (QA a' b' d')] ⟨0, 0, []⟩ (fun v _ => v = .test (decide (Bfr a b d a' b' d')) ∧ nameless v = true) := by
  have a1 := h.2.1.1; have a2 := h.2.1.2; have a3 := h'.2.1.1; have a4 := h'.2.1.2
  refine SemF.test ?_
  refine enter tt_ok Try.func20 (nt := 48) (cd := body Try.f20) rfl rfl rfl rfl ?_
  intro _; refine ⟨fun g => ?_, fun g => ?_⟩
  · have g : (d != d') = true := g
    have g : d ≠ d' := by simpa using g
    intro _
    refine ⟨_, .inr rfl, ?_, rfl⟩
    unfold Bfr; simp only [if_pos g]
  have gd : (d != d') = false := g
  have gd : d = d' := by simpa using gd
  intro _
  refine Or.inl ?_
  intro _
  refine call_pure [] (abs_ok a ⟨by omega, by omega⟩) rfl rfl rfl ?_ ?_ ?_
  · (repeat' first | exact trivial | exact rfl | refine And.intro ?_ ?_)
  · (repeat' first | exact trivial | exact rfl | refine And.intro ?_ ?_)
  intro v hv _
  subst hv
  intro _
  refine Or.inl ?_
  intro _
  refine call_pure [] (abs_ok a' ⟨by omega, by omega⟩) rfl rfl rfl ?_ ?_ ?_
  · (repeat' first | exact trivial | exact rfl | refine And.intro ?_ ?_)
  · (repeat' first | exact trivial | exact rfl | refine And.intro ?_ ?_)
  intro v hv _
  subst hv
  intro _; refine ⟨by kernel_rfl, ?_⟩
  intro _; refine ⟨fun g => ?_, fun g => ?_⟩
  · have g2 : (max a (-a) != max a' (-a')) = true := g
    have g2 : max a (-a) ≠ max a' (-a') := by simpa using g2
    intro _
    refine Or.inl ?_
    intro _
    refine call_pure [] (abs_ok a ⟨by omega, by omega⟩) rfl rfl rfl ?_ ?_ ?_
    · (repeat' first | exact trivial | exact rfl | refine And.intro ?_ ?_)
    · (repeat' first | exact trivial | exact rfl | refine And.intro ?_ ?_)
    intro v hv _
    subst hv
    intro _
    refine Or.inl ?_
    intro _
    refine call_pure [] (abs_ok a' ⟨by omega, by omega⟩) rfl rfl rfl ?_ ?_ ?_
    · (repeat' first | exact trivial | exact rfl | refine And.intro ?_ ?_)
    · (repeat' first | exact trivial | exact rfl | refine And.intro ?_ ?_)
    intro v hv _
    subst hv
    intro _; refine ⟨by kernel_rfl, ?_⟩
    intro _
    refine ⟨_, .inr rfl, ?_, rfl⟩
    unfold Bfr; simp only [if_neg (fun q : d ≠ d' => q gd), if_pos g2]
  have g2 : (max a (-a) != max a' (-a')) = false := g
  have g2 : max a (-a) = max a' (-a') := by simpa using g2
  have e0 : Bfr a b d a' b' d' ↔ a < a' ∨ (a = a' ∧ b < b') := by unfold Bfr; rw [if_neg (fun q : d ≠ d' => q gd), if_neg (fun q : max a (-a) ≠ max a' (-a') => q g2)]
  intro _; refine ⟨fun g => ?_, fun g => ?_⟩
  · have g3 := of_decide_eq_true (show decide (a < a') = true from g)
    intro _
    exact ⟨true, .inl rfl, by rw [decide_eq_true (e0.2 (.inl g3))], rfl⟩
  have g3 := of_decide_eq_false (show decide (a < a') = false from g)
  intro _; refine ⟨fun g => ?_, fun g => ?_⟩
  · have g4 := beq_iff_eq.1 (show (a == a') = true from g)
    intro _
    refine ⟨_, .inr rfl, ?_, rfl⟩
    have : decide (Bfr a b d a' b' d') = decide (b < b') := by
      by_cases q : b < b'
      · rw [decide_eq_true q, decide_eq_true (e0.2 (.inr ⟨g4, q⟩))]
      · rw [decide_eq_false q, decide_eq_false (fun k => (e0.1 k).elim g3 (fun k => q k.2))]
    rw [this]
  have g4 := beq_eq_false_iff_ne.1 (show (a == a') = false from g)
  intro _
  exact ⟨false, .inl rfl, by rw [decide_eq_false (fun k => (e0.1 k).elim g3 (fun k => g4 k.1))], rfl⟩
/-- the values of a quotient at the first places -/
def mk (a b d : Int) : Nat → List Int
  | 0 => []
  | k + 1 => mk a b d k ++ [qv a b d k]
theorem mk_len (a b d : Int) : ∀ k, (mk a b d k).length = k
  | 0 => rfl
  | k + 1 => by simp [mk, mk_len a b d k]
theorem raw_mk {a b d : Int} : ∀ (k i : Nat), i < k → raw (mk a b d k) i = qv a b d i
  | k + 1, i, h => by
    unfold raw
    rw [List.getD_eq_getElem?_getD]
    simp only [mk]
    by_cases e : i < k
    · rw [List.getElem?_append_left (by rw [mk_len]; exact e)]
      have := raw_mk (a := a) (b := b) (d := d) k i e
      unfold raw at this
      rw [List.getD_eq_getElem?_getD] at this
      exact this
    · have : i = k := by omega
      subst this
      rw [List.getElem?_append_right (by rw [mk_len]; exact Nat.le_refl _), mk_len]
      simp
theorem ft_take {a b d : Int} {l : List Int} {n : Nat} (h : Ft a b d l) (hn : n ≤ l.length) : Ft a b d (l.take n) := fun i hi => by
  rw [tk_len hn] at hi
  rw [raw_take hi]; exact h i (by omega)
theorem allC_take {l : List Int} {n : Nat} (h : AllC l) (hn : n ≤ l.length) : AllC (l.take n) := fun i hi => by
  rw [tk_len hn] at hi
  rw [raw_take hi]; exact h i (by omega)
theorem law5 (a b d z w : Int) (hz : 0 ≤ z ∧ z ≤ 65535) (hw : 0 ≤ w ∧ w ≤ 65535) : SemF Try.prog 5 [.agg (QA a b d), .int .u16 z, .int .u16 w] ⟨0, 0, []⟩ (fun v _ => IsTrue v) := by
  refine enter tt_ok Try.func5 (nt := 97) (cd := body Try.f5) rfl rfl rfl rfl ?_
  intro _
  refine head_ok rfl Try.func7 (cd := body Try.f7) rfl ?_
  intro _
  refine call_pure [] (rvalid_ok a b d) rfl rfl rfl ?_ ?_ ?_
  · (repeat' first | exact trivial | exact rfl | refine And.intro ?_ ?_)
  · (repeat' first | exact trivial | exact rfl | refine And.intro ?_ ?_)
  intro v hv _
  subst hv
  intro _; refine ⟨fun g => ?_, fun g => ?_⟩
  · intro _
    show true = true
    rfl
  have g : (!decide (Qv a b d)) = false := g
  rw [Bool.not_eq_false'] at g
  have hq := of_decide_eq_true g
  intro _; refine ⟨by decide, ?_⟩
  intro _
  obtain ⟨n, hn⟩ : ∃ n : Nat, n = (1 + z.tmod 300).toNat := ⟨_, rfl⟩
  have t1 := Int.tmod_lt_of_pos z (b := 300) (by omega)
  have t2 := Int.tmod_nonneg 300 hz.1
  have hn1 : 1 ≤ n ∧ n ≤ 300 := by omega
  have eN : IntKind.i64.wrap (1 + (IntKind.i64.wrap z).tmod 300) = (n : Int) := by
    rw [wrapS z ⟨by omega, by omega⟩, wrapS _ ⟨by omega, by omega⟩]; omega
  refine enter tt_ok Try.func21 (nt := 25) (cd := body Try.f21) rfl rfl rfl rfl ?_
  intro _
  refine loop2 tt_ok [6, 7] [2] 3 (fun k : { k : Nat // k ≤ n ∧ ∀ i : Nat, i < k → Cd (qv a b d i) } => [(6, .grw 2 (mk a b d k.1).length), (7, .int .i64 (k.1 : Nat))]) (fun k => [(2, .arr [.int .i64] .grow (.ints (mk a b d k.1)))]) (fun k => n - k.1) ⟨0, Nat.zero_le _, fun i h => by omega⟩ ?_
  intro _
  refine ⟨⟨th [(2, none)] 3, rfl, rfl, rfl, rfl, rfl, rfl, ?_, ?_⟩, ?_⟩
  · (repeat' first | exact trivial | exact rfl | refine And.intro ?_ ?_)
  · (repeat' first | exact trivial | exact rfl | refine And.intro ?_ ?_)
  intro ⟨k, hk, hm⟩
  have hk : k ≤ n := hk
  have hml := mk_len a b d k
  intro _; refine ⟨fun g => ?_, fun g => ?_⟩
  · have g : decide ((k : Int) < IntKind.i64.wrap (1 + (IntKind.i64.wrap z).tmod 300)) = true := g
    rw [eN] at g
    have g := of_decide_eq_true g
    intro _
    refine call_pure [] (value_ok a b d k hq ⟨by omega, by omega⟩) rfl rfl rfl ?_ ?_ ?_
    · (repeat' first | exact trivial | exact rfl | refine And.intro ?_ ?_)
    · (repeat' first | exact trivial | exact rfl | refine And.intro ?_ ?_)
    intro v hv _
    subst hv
    intro _
    refine rcoord_test _ _ _ ?_
    intro _; refine ⟨fun g => ?_, fun g => ?_⟩
    · intro _
      intro _
      show true = true
      rfl
    have g2 : (!decide (Cd (qv a b d k))) = false := g
    rw [Bool.not_eq_false'] at g2
    have g2 := of_decide_eq_true g2
    intro _; refine ⟨rfl, ?_⟩
    intro _; refine ⟨fun g3 => by simp at g3, fun _ => ?_⟩
    refine ⟨⟨rfl, show (mk a b d k).length + 1 ≤ 4611686018427387904 by rw [hml]; omega, show ((mk a b d k).length + 1) * 8 ≤ 140737488355328 by rw [hml]; omega⟩, ?_⟩
    refine ⟨⟨k + 1, by omega, fun i hi => ?_⟩, by show n - (k + 1) < n - k; omega, th [(2, some 4)] 3, rfl, rfl, rfl, rfl, rfl, rfl, ?_, ?_⟩
    · by_cases e : i = k
      · subst e; exact g2
      · exact hm i (by omega)
    · (repeat' first | exact trivial | exact rfl | refine And.intro ?_ ?_)
      · show (mk a b d (k + 1)).length = (mk a b d k).length + 1
        rw [mk_len, mk_len]
      · exact (wrap_nat k (by omega)).symm
    · (repeat' first | exact trivial | exact rfl | refine And.intro ?_ ?_)
  have g : decide ((k : Int) < IntKind.i64.wrap (1 + (IntKind.i64.wrap z).tmod 300)) = false := g
  rw [eN] at g
  have g := of_decide_eq_false g
  have hkn : k = n := by omega
  subst hkn
  have hL : (mk a b d k).length = k := hml
  have hC : AllC (mk a b d k) := fun i hi => by rw [hL] at hi; rw [raw_mk k i hi]; exact hm i hi
  have hF : Ft a b d (mk a b d k) := fun i hi => by rw [hL] at hi; rw [raw_mk k i hi]
  intro _
  intro _
  refine ⟨fun q => by have q : ((mk a b d k).length : Int) = 0 := q; rw [hL] at q; omega, ?_⟩
  obtain ⟨m, hmm⟩ : ∃ m : Nat, m = (1 + w.tmod k).toNat := ⟨_, rfl⟩
  have u1 := Int.tmod_lt_of_pos w (b := (k : Int)) (by omega)
  have u2 := Int.tmod_nonneg (k : Int) hw.1
  have hm1 : 1 ≤ m ∧ m ≤ k := by omega
  have eM : IntKind.i64.wrap (1 + (IntKind.i64.wrap w).tmod ((mk a b d k).length : Int)) = (m : Int) := by
    rw [hL, wrapS w ⟨by omega, by omega⟩, wrapS _ ⟨by omega, by omega⟩]; omega
  have eS : (IntKind.i64.wrap (1 + (IntKind.i64.wrap w).tmod ((mk a b d k).length : Int)) - 0).toNat = m := by rw [eM]; omega
  intro _
  refine call_pure [(0, some 2)] (Fit_ok (mk a b d k) (by rw [hL]; omega)) rfl rfl rfl ?_ ?_ ?_
  · (repeat' first | exact trivial | exact rfl | refine And.intro ?_ ?_)
  · (repeat' first | exact trivial | exact rfl | refine And.intro ?_ ?_)
  intro v hv _
  obtain ⟨a1, b1, d1, rfl, hq1, hF1, hB1⟩ := best hC (by omega) (by omega) hv hq hF
  have hmk : m ≤ (mk a b d k).length := by omega
  intro _; refine ⟨⟨by omega, show (0 : Int) ≤ IntKind.i64.wrap (1 + (IntKind.i64.wrap w).tmod ((mk a b d k).length : Int)) by rw [eM]; omega, show IntKind.i64.wrap (1 + (IntKind.i64.wrap w).tmod ((mk a b d k).length : Int)) ≤ ((mk a b d k).length : Int) by rw [eM, hL]; omega, .inr rfl⟩, ?_⟩
  intro _
  refine call_pure [(0, some 2)] (Fit_pre (mk a b d k) m hmk (by rw [hL]; omega)) rfl rfl rfl ?_ ?_ ?_
  · (repeat' first | exact trivial | exact rfl | refine And.intro ?_ ?_)
  · (repeat' first | exact trivial | exact rfl | refine And.intro ?_ ?_)
    exact eS.symm
  intro v hv _
  have hT : ((mk a b d k).take m).length = m := tk_len hmk
  obtain ⟨a2, b2, d2, rfl, hq2, hF2, hB2⟩ := best (allC_take hC hmk) (by omega) (by omega) hv hq1 (ft_take hF1 hmk)
  intro _; refine ⟨fun g => ?_, fun g => ?_⟩
  · exact absurd (show ((0 : Int) != 0) = true from g) (by decide)
  intro _; refine ⟨fun g => ?_, fun g => ?_⟩
  · exact absurd (show ((0 : Int) != 0) = true from g) (by decide)
  intro _
  refine Or.inl ?_
  intro _
  refine call_pure [] (rvalid_ok a1 b1 d1) rfl rfl rfl ?_ ?_ ?_
  · (repeat' first | exact trivial | exact rfl | refine And.intro ?_ ?_)
  · (repeat' first | exact trivial | exact rfl | refine And.intro ?_ ?_)
  intro v hv _
  subst hv
  intro _; refine ⟨fun _ => ?_, fun g => absurd g (by simp [hq1])⟩
  intro _
  refine Or.inl ?_
  intro _
  refine call_pure [(0, some 2)] (fits_ok a1 b1 d1 (mk a b d k) hq1 (by omega)) rfl rfl rfl ?_ ?_ ?_
  · (repeat' first | exact trivial | exact rfl | refine And.intro ?_ ?_)
  · (repeat' first | exact trivial | exact rfl | refine And.intro ?_ ?_)
  intro v hv _
  subst hv
  intro _; refine ⟨fun _ => ?_, fun g => absurd g (by simp [hF1])⟩
  intro _; refine ⟨⟨by omega, show (0 : Int) ≤ IntKind.i64.wrap (1 + (IntKind.i64.wrap w).tmod ((mk a b d k).length : Int)) by rw [eM]; omega, show IntKind.i64.wrap (1 + (IntKind.i64.wrap w).tmod ((mk a b d k).length : Int)) ≤ ((mk a b d k).length : Int) by rw [eM, hL]; omega, .inr rfl⟩, ?_⟩
  intro _
  refine Or.inl ?_
  intro _
  refine call_pure [(0, some 2)] (Fits_pre a2 b2 d2 (mk a b d k) m hq2 hmk (by omega)) rfl rfl rfl ?_ ?_ ?_
  · (repeat' first | exact trivial | exact rfl | refine And.intro ?_ ?_)
  · (repeat' first | exact trivial | exact rfl | refine And.intro ?_ ?_)
    exact eS.symm
  intro v hv _
  subst hv
  intro _; refine ⟨fun _ => ?_, fun g => absurd g (by simp [hF2])⟩
  intro _
  refine Or.inl ?_
  intro _
  refine call_pure [] (before_ok a b d a1 b1 d1 hq hq1) rfl rfl rfl ?_ ?_ ?_
  · (repeat' first | exact trivial | exact rfl | refine And.intro ?_ ?_)
  · (repeat' first | exact trivial | exact rfl | refine And.intro ?_ ?_)
  intro v hv _
  subst hv
  intro _; refine ⟨fun _ => ?_, fun g => absurd g (by simp [hB1])⟩
  intro _
  refine Or.inl ?_
  intro _
  refine call_pure [] (before_ok a1 b1 d1 a2 b2 d2 hq1 hq2) rfl rfl rfl ?_ ?_ ?_
  · (repeat' first | exact trivial | exact rfl | refine And.intro ?_ ?_)
  · (repeat' first | exact trivial | exact rfl | refine And.intro ?_ ?_)
  intro v hv _
  subst hv
  intro _; refine ⟨by kernel_rfl, ?_⟩
  intro _
  show (!decide (Bfr a1 b1 d1 a2 b2 d2)) = true
  simp [hB2]

def SV (x : Nat → Int) : List V := [.int .i64 (x 0), .int .i64 (x 1), .int .i64 (x 2)]
def SVA (x : Nat → Int) : List Go.Vm.AV := [.int .i64 (x 0), .int .i64 (x 1), .int .i64 (x 2)]
theorem SV_cv (x : Nat → Int) {n : Nat} {ν : Nu} : Cv n ν (.agg (SV x)) (.agg (SVA x)) := by
  simp only [Cv]
  exact ⟨SVA x, rfl, Cvs.cons mk_int (Cvs.cons mk_int (Cvs.cons mk_int (Cvs.nil)))⟩
set_option maxRecDepth 100000 in
theorem arr_of (cs : Array Value) (hs : cs.size = 3) (hc : ∀ i, i < 3 → ∃ n, cs[i]? = some (.int .i64 n)) : ∃ x : Nat → Int, ∀ ρ, Go.Vm.conv ρ (.agg (SVA x)) = some (.agg cs) := by
  refine ⟨fun i => match (cs[i]? : Option Value) with | some (Value.int _ n) => n | _ => (0 : Int), fun ρ => ?_⟩
  have h1 : Go.Vm.convs ρ (SVA fun i => match (cs[i]? : Option Value) with | some (Value.int _ n) => n | _ => (0 : Int)) = some cs.toList := by
    show Go.Vm.convs ρ ((List.range 3).map fun i => Go.Vm.AV.int .i64 (match (cs[i]? : Option Value) with | some (Value.int _ n) => n | _ => (0 : Int))) = _
    refine Go.Vm.convs_of_get (by simp [hs]) (fun i v hv => ?_)
    have hi : i < 3 := by
      rcases Nat.lt_or_ge i 3 with h | h
      · exact h
      · rw [List.getElem?_eq_none (by simpa using h)] at hv; cases hv
    obtain ⟨n, hn⟩ := hc i hi
    rw [List.getElem?_map, List.getElem?_range hi] at hv
    have hv : some (Go.Vm.AV.int .i64 (match (cs[i]? : Option Value) with | some (Value.int _ n) => n | _ => (0 : Int))) = some v := hv
    rw [hn] at hv
    cases hv
    exact ⟨.int .i64 n, rfl, by simpa using hn⟩
  simp only [Go.Vm.conv, h1]
  try simp
set_option maxRecDepth 100000 in
/-- what an array of integers is -/
theorem ints_of {w : World} {base : Nat} {v : Value} (h : Value.okWide Try.prog w .any base 23 v) : ∃ cs : Array Value, v = .agg cs ∧ cs.size = 3 ∧ ∀ i, i < 3 → ∃ n, cs[i]? = some (.int .i64 n) := by
  unfold Value.okWide at h
  rw [Try.underlying23] at h
  obtain ⟨cs, rfl, hs, ts, ht, _, hk⟩ := h
  have e1 : Try.prog.cellsOf 23 = 3 := by kernel_rfl
  have e2 : Try.prog.cellTypes Try.prog.depth 23 = some (List.replicate 3 3) := by kernel_rfl
  rw [e2] at ht
  simp only [Option.some.injEq] at ht
  subst ht
  refine ⟨cs, rfl, by rw [hs, e1], fun i hi => ?_⟩
  have hlt : i < cs.size := by rw [hs, e1]; exact hi
  obtain ⟨u, hu, hok⟩ := hk i cs[i] (by simp [hlt])
  have hu3 : u = 3 := by
    rw [List.length_replicate, Nat.mod_eq_of_lt hi, List.getElem?_replicate, if_pos hi] at hu
    exact (Option.some.inj hu).symm
  subst hu3
  have hv : Value.okWide Try.prog w .any base 3 cs[i] := by
    unfold Value.okWide
    rw [Try.underlying3]
    exact hok
  obtain ⟨n, hn⟩ := okWide_int Try.underlying3 hv
  exact ⟨n, by rw [← hn]; simp [hlt]⟩
theorem walk (w : World) (q : Nat → Int) (v_q : Value) (h_q : ∀ ρ, Go.Vm.conv ρ (.agg (SVA q)) = some v_q) (u1 : Int) (w_u1 : (Lit.int .u16 u1).wf = true) (u2 : Int) (w_u2 : (Lit.int .u16 u2).wf = true) :
    Calls Try.prog 5 #[v_q, .int .u16 u1, .int .u16 u2] w fun e w' => e = .returned (.bool true) ∧ Below w.heap.size w w' := by
  have b_u1 := w_u1
  simp [Lit.wf, IntKind.min, IntKind.max, IntKind.signed, IntKind.bits] at b_u1
  have b_u2 := w_u2
  simp [Lit.wf, IntKind.min, IntKind.max, IntKind.signed, IntKind.bits] at b_u2
  exact top_run (by kernel_rfl) (by kernel_rfl) (T := [7]) (fun f hf w => by
      rcases List.mem_cons.1 hf with e | e
      · subst e; exact head w
      · exact (List.not_mem_nil e).elim) (l := []) (args := [.agg (SV q), .int .u16 u1, .int .u16 u2]) («as» := [.agg (SVA q), .int .u16 u1, .int .u16 u2]) (cargs := [v_q, .int .u16 u1, .int .u16 u2]) w
    (fun s h => by
      exact (List.not_mem_nil h).elim)
    (Cvs.cons (SV_cv q) (Cvs.cons mk_int (Cvs.cons mk_int Cvs.nil)))
    (by simp only [Go.Vm.convs, h_q]; try simp only [Go.Vm.conv])
    (law5 (q 0) (q 1) (q 2) u1 u2 b_u1 b_u2)

set_option maxRecDepth 100000 in
theorem lifted (os : Os) (started : os.Started) (H : Type) (enc : TypeId × Value → H) :
    ReturnsInHanded {} Try.checked os 5 .any (Rows.quotBeginningsSpec.pre6 enc Try.prog Try.f5 Rows.quotBeginningsRow.domain false) (Rows.quotBeginningsSpec.post enc Try.prog Try.f5 false true false false) := by
  refine returnsInHanded_of_change (C := Try.checked) own started (by kernel_rfl) Try.func5
    (ChangeSpec.witness6 (enc := enc) (C := Try.checked) false ⟨#[], #[.agg (Array.replicate 3 (.int .i64 0)), .int .u16 0, .int .u16 0], []⟩ 8 (by kernel_rfl) (by kernel_rfl) (by kernel_rfl) (by kernel_rfl)) ?_
  intro W base args ds gs before hval0 hW hcnd _
  have hval : ∀ (j : Nat) t v, Try.f5.params[j]? = some t → args[j]? = some v → Value.okWide Try.prog W .any base t v := hval0
  have hW' := hW
  obtain ⟨p, q, hA0, hV, rfl, hfz, hnd⟩ := hW
  have hA : DataW.TrodAll enc Try.prog W 0 (fun _ => true) true Try.f5.params.toList args.toList ds p := hA0
  rw [Try.params5] at hA hval
  obtain ⟨v0, vs0, d0, ds0, p0, q0, hargs, rfl, rfl, h0, r0⟩ := trodAll_cons hA
  obtain ⟨v1, vs1, d1, ds1, p1, q1, rfl, rfl, rfl, h1, r1⟩ := trodAll_cons r0
  obtain ⟨v2, vs2, d2, ds2, p2, q2, rfl, rfl, rfl, h2, r2⟩ := trodAll_cons r1
  obtain ⟨rfl, rfl, rfl⟩ := trodAll_nil r2
  obtain rfl : args = #[v0, v1, v2] := by cases args; simp_all
  obtain ⟨rfl, rfl⟩ := trodVars_none hV
  obtain ⟨cs_q, rfl, hz_q, hc_q⟩ := ints_of (hval 0 23 v0 rfl rfl)
  obtain ⟨q, h_q⟩ := arr_of cs_q hz_q hc_q
  have hlt0 : ∀ x ∈ p0, x.block < W.heap.size := fun x hx => by simpa using hW'.lt x (by simp [hx])
  obtain ⟨u1, rfl, rfl, rfl, w_u1⟩ := open_int Try.underlying42 (hval 1 42 v1 rfl rfl) h1
  obtain ⟨u2, rfl, rfl, rfl, w_u2⟩ := open_int Try.underlying42 (hval 2 42 v2 rfl rfl) h2
  clear hA0 hval0
  refine (walk W q (.agg cs_q) h_q u1 w_u1 u2 w_u2).mono fun e W' ⟨he, hg⟩ => ?_
  subst he
  exact ⟨_, rfl, _, _, _, [], _, [], hW', trodAll_cons_mk (shut_bool Try.underlying4 _) trodAll_mk0, (trodAll_cons_mk (Below.trod laidOut (by kernel_rfl) (of_decide_eq_true (by kernel_rfl)) h0 hg hlt0) (trodAll_cons_mk (shut_int Try.underlying42 w_u1) (trodAll_cons_mk (shut_int Try.underlying42 w_u2) trodAll_mk0))), rfl, hg.frame _, fun h => by cases h⟩

theorem over : Rows.quotBeginningsRow.holds Try.pinned (OpenSpec.ofChange Rows.quotBeginningsSpec) :=
  OpenClaim.holds_of_wide 5 Try.f5 rfl rfl rfl rfl rfl rfl rfl ⟨rfl, rfl, rfl, rfl, rfl⟩ rfl rfl rfl rfl rfl (by kernel_rfl) Try.func5 (by kernel_rfl)
    (of_decide_eq_true (by kernel_rfl)) (by unfold Func.isWrapper; first | (rw [if_pos (by decide +kernel)]; kernel_rfl) | (rw [if_neg (by decide +kernel)]; exact ⟨rfl, rfl⟩))
    (fun os started H enc _ => lifted os started H enc)

/-- the statement -/
theorem proved : Rows.QuotBeginningsSaid :=
  over
#print axioms proved
end Go.Proofs.Ytpodfpoaplnheaa.quotBeginnings
