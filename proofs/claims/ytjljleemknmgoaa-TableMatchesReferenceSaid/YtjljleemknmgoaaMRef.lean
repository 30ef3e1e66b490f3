/-
 TableMatchesReference: whatever the arguments, the law returns true, and its arguments read as before. No conditions.
-/
import Derived.Test.YtjljleemknmgoaaRows
import Derived.Test.YtjljleemknmgoaaVwOpen2
import Derived.Test.YtjljleemknmgoaaVwTop2
import Derived.Test.YtjljleemknmgoaaVwDeep2
import Derived.WalkKit
import Derived.ProofKit
import Derived.OpenShut
import Derived.Carry
namespace Go.Proofs.Ytjljleemknmgoaa.tableMatchesReference
open Go.ChangeShapes Go.WideShapes Go.ChangeAt Go.RowKit
open Go.Vm (Facts Val Sound)
open Go.Vm2
set_option linter.unusedVariables false
set_option linter.unusedSectionVars false
theorem own : ownKnob Try.prog.godebug = none := by kernel_rfl
theorem laidOut : laidOutB Try.prog = true := by kernel_rfl
def ts : List Nat := [23, 29, 24, 3, 31, 22, 44, 25, 38, 47, 50, 60, 4, 48, 80]
def tt : Go.Vm2.TT := [
 (23, ⟨(.slice 29 2 16 [.int .i64, .int .i64]), false, 1, .nils, true, [.list 29]⟩),
 (29, ⟨(.struct [⟨0, 1, false⟩, ⟨1, 1, false⟩]), true, 2, .agg [.int .i64 (0), .int .i64 (0)], true, [.int .i64, .int .i64]⟩),
 (24, ⟨(.slice 3 1 8 [.int .i64]), false, 1, .nils, true, [.list 3]⟩),
 (3, ⟨(.int .i64), false, 1, .int .i64 (0), true, [.int .i64]⟩),
 (31, ⟨(.int .i64), false, 1, .int .i64 (0), true, [.int .i64]⟩),
 (22, ⟨(.slice 23 1 24 [.nils]), false, 1, .nils, true, [.list 23]⟩),
 (44, ⟨(.int .u32), false, 1, .int .u32 (0), true, [.int .u32]⟩),
 (25, ⟨(.slice 24 1 24 [.nils]), false, 1, .nils, true, [.list 24]⟩),
 (38, ⟨(.slice 47 1 24 [.nils]), false, 1, .nils, true, [.list 47]⟩),
 (47, ⟨(.slice 50 7 72 [.int .i64, .int .i64, .int .i64, .int .i64, .int .i64, .bool, .nils]), false, 1, .nils, true, [.list 50]⟩),
 (50, ⟨(.struct [⟨0, 1, false⟩, ⟨1, 1, false⟩, ⟨2, 1, false⟩, ⟨3, 1, false⟩, ⟨4, 1, false⟩, ⟨5, 1, false⟩, ⟨6, 1, false⟩]), true, 7, .agg [.int .i64 (0), .int .i64 (0), .int .i64 (0), .int .i64 (0), .int .i64 (0), .bool false, .nils], false, [.int .i64, .int .i64, .int .i64, .int .i64, .int .i64, .bool, .list 80]⟩),
 (60, ⟨(.struct [⟨0, 7, true⟩]), true, 7, .agg [.int .i64 (0), .int .i64 (0), .int .i64 (0), .int .i64 (0), .int .i64 (0), .bool false, .nils], false, [.int .i64, .int .i64, .int .i64, .int .i64, .int .i64, .bool, .list 80]⟩),
 (4, ⟨.bool, false, 1, .bool false, true, [.bool]⟩),
 (48, ⟨(.slice 80 5 48 [.str, .int .i64, .int .i64, .int .i64, .int .i64]), false, 1, .nils, true, [.list 80]⟩),
 (80, ⟨(.struct [⟨0, 1, false⟩, ⟨1, 1, false⟩, ⟨2, 1, false⟩, ⟨3, 1, false⟩, ⟨4, 1, false⟩]), true, 5, .agg [.str [], .int .i64 (0), .int .i64 (0), .int .i64 (0), .int .i64 (0)], true, [.str, .int .i64, .int .i64, .int .i64, .int .i64]⟩)]
theorem tt_mk : mkTT Try.prog ts = some tt := by kernel_rfl
instance facts : Facts := ⟨[], [], false⟩
instance val : Val := ⟨fun _ => 0⟩
instance sound : Sound := ⟨fun f hf => (List.not_mem_nil hf).elim⟩
theorem tt_ok : TTok Try.prog tt := ttok_mk tt_mk
def body (f : Func) : Code := match f.body with | some c => c | none => .skip
set_option maxRecDepth 100000
theorem wrap_nat (k : Nat) (h : k < 9223372036854775807) : IntKind.i64.wrap ((k : Int) + 1) = ((k + 1 : Nat) : Int) := by
 rw [IntKind.wrap_i64]; omega
theorem wrapS (n : Int) (h : -9000000000000000000 ≤ n ∧ n ≤ 9000000000000000000) : IntKind.i64.wrap n = n := by rw [IntKind.wrap_i64]; omega
abbrev K2 : List CK := [.int .i64, .int .i64]
abbrev K1 : List CK := [.int .i64]
abbrev Rows := List (List D)
def lo (l : Rows) (i : Nat) : Int := ((l.getD i []).getD 0 (D.n 0)).int
def hi (l : Rows) (i : Nat) : Int := ((l.getD i []).getD 1 (D.n 0)).int
def sm (f : Nat → Int) : Nat → Int
 | 0 => 0
 | k + 1 => sm f k + f k
def Nd (l : Rows) (i : Nat) : Prop := (0 ≤ lo l i ∧ lo l i ≤ 1000000) ∧ (0 ≤ hi l i ∧ hi l i ≤ 1000000) ∧ lo l i ≤ hi l i
def WOk (l : Rows) (s g : Int) : Prop := (1 ≤ l.length ∧ l.length ≤ 64) ∧ (0 ≤ s ∧ s ≤ 1000000) ∧ (0 ≤ g ∧ g ≤ 100000) ∧ ∀ i, i < l.length → Nd l i
instance decNd (l : Rows) (i : Nat) : Decidable (Nd l i) := inferInstanceAs (Decidable (_ ∧ _))
instance decWOk (l : Rows) (s g : Int) : Decidable (WOk l s g) := inferInstanceAs (Decidable (_ ∧ _))
def lft (l : Rows) (s g : Int) : Int := s - g * ((l.length : Int) - 1)
def dp (l : Rows) (k : Nat) : Int := sm (fun i => hi l i - lo l i) k
def mor (l : Rows) (s g : Int) : Int := min (lft l s g) (sm (hi l) l.length) - sm (lo l) l.length
def suu (l : Rows) : Int := sm (hi l) l.length - sm (lo l) l.length
def en (m u : Int) (l : Rows) (k : Nat) : Int := if 0 < u then (m * dp l k).tdiv u else 0
def wt (m u : Int) (l : Rows) (i : Nat) : Int := lo l i + en m u l (i + 1) - en m u l i
theorem dp_eq (l : Rows) : ∀ k, dp l k = sm (hi l) k - sm (lo l) k
 | 0 => rfl
 | k + 1 => by
  have := dp_eq l k
  simp only [dp, sm] at this ⊢
  omega
theorem sm_bd {f : Nat → Int} {n : Nat} (h : ∀ i, i < n → 0 ≤ f i ∧ f i ≤ 1000000) : ∀ k, k ≤ n → 0 ≤ sm f k ∧ sm f k ≤ 1000000 * k
 | 0, _ => by simp [sm]
 | k + 1, hk => by
  have h1 := sm_bd h k (by omega)
  have h2 := h k (by omega)
  simp only [sm]
  omega
theorem sm_mono {f : Nat → Int} {n : Nat} (h : ∀ i, i < n → 0 ≤ f i) : ∀ k j, j ≤ n → k ≤ j → sm f k ≤ sm f j
 | k, 0, _, h2 => by
  have : k = 0 := by omega
  subst this; exact Int.le_refl _
 | k, j + 1, h1, h2 => by
  by_cases e : k = j + 1
  ·subst e; exact Int.le_refl _
  ·have a := sm_mono h k j (by omega) (by omega)
   have b := h j (by omega)
   simp only [sm]; omega
section
variable {l : Rows} {s g : Int}
theorem lo_bd (h : WOk l s g) : ∀ i, i < l.length → 0 ≤ lo l i ∧ lo l i ≤ 1000000 := fun i hi => (h.2.2.2 i hi).1
theorem hi_bd (h : WOk l s g) : ∀ i, i < l.length → 0 ≤ hi l i ∧ hi l i ≤ 1000000 := fun i hi => (h.2.2.2 i hi).2.1
theorem df_bd (h : WOk l s g) : ∀ i, i < l.length → 0 ≤ hi l i - lo l i ∧ hi l i - lo l i ≤ 1000000 := fun i hi => by
 have := h.2.2.2 i hi
 have h1 := this.1
 have h2 := this.2.1
 have h3 := this.2.2
 omega
theorem dp_bd (h : WOk l s g) : ∀ k, k ≤ l.length → 0 ≤ dp l k ∧ dp l k ≤ 64000000 := fun k hk => by
 have := sm_bd (df_bd h) k hk
 have := h.1
 unfold dp
 omega
theorem gap_bd (h : WOk l s g) : 0 ≤ g * ((l.length : Int) - 1) ∧ g * ((l.length : Int) - 1) ≤ 6300000 := by
 have h1 := h.1
 have h2 := h.2.2.1
 refine ⟨Int.mul_nonneg h2.1 (by omega), ?_⟩
 have h3 : g * ((l.length : Int) - 1) ≤ 100000 * ((l.length : Int) - 1) := Int.mul_le_mul_of_nonneg_right h2.2 (by omega)
 omega
theorem suu_dp (l : Rows) : suu l = dp l l.length := by unfold suu; rw [dp_eq]
theorem mor_bd (h : WOk l s g) (hf : sm (lo l) l.length ≤ lft l s g) : 0 ≤ mor l s g ∧ mor l s g ≤ 1000000 ∧ mor l s g ≤ suu l := by
 have h1 := dp_bd h l.length (Nat.le_refl _)
 rw [dp_eq] at h1
 have h2 := gap_bd h
 have h3 := h.2.1
 have h4 := sm_bd (lo_bd h) l.length (Nat.le_refl _)
 unfold mor suu lft at *
 omega
end
theorem en_zero (m u : Int) (l : Rows) : en m u l 0 = 0 := by
 unfold en
 split
 ·show (m * 0).tdiv u = 0
  rw [Int.mul_zero]; exact Int.zero_tdiv _
 ·rfl
theorem en_ediv {m u : Int} {l : Rows} {k : Nat} (hm : 0 ≤ m) (hd : 0 ≤ dp l k) (hu : 0 < u) : en m u l k = m * dp l k / u := by
 unfold en
 rw [if_pos hu, Int.tdiv_eq_ediv_of_nonneg (Int.mul_nonneg hm hd)]
theorem en_step {m u : Int} {l : Rows} {k : Nat} (hm : 0 ≤ m) (hmu : m ≤ u) (hd : 0 ≤ dp l k) (hx : 0 ≤ hi l k - lo l k) : 0 ≤ en m u l k ∧ en m u l k ≤ en m u l (k + 1) ∧ en m u l (k + 1) - en m u l k ≤ hi l k - lo l k := by
 by_cases hu : 0 < u
 ·have e2 : dp l (k + 1) = dp l k + (hi l k - lo l k) := rfl
  rw [en_ediv hm hd hu, en_ediv hm (by rw [e2]; omega) hu, e2, Int.mul_add]
  have a1 : 0 ≤ m * dp l k := Int.mul_nonneg hm hd
  have a2 : 0 ≤ m * (hi l k - lo l k) := Int.mul_nonneg hm hx
  have a3 : m * (hi l k - lo l k) ≤ u * (hi l k - lo l k) := Int.mul_le_mul_of_nonneg_right hmu hx
  refine ⟨Int.ediv_nonneg a1 (by omega), Int.ediv_le_ediv hu (by omega), ?_⟩
  have a4 : (m * dp l k + m * (hi l k - lo l k)) / u ≤ (m * dp l k + u * (hi l k - lo l k)) / u := Int.ediv_le_ediv hu (by omega)
  rw [Int.add_mul_ediv_left _ _ (by omega)] at a4
  omega
 ·unfold en
  rw [if_neg hu, if_neg hu]
  omega
theorem en_bd {m u : Int} {l : Rows} {k : Nat} (hm : 0 ≤ m) (hmu : m ≤ u) (hd : 0 ≤ dp l k) : 0 ≤ en m u l k ∧ en m u l k ≤ dp l k := by
 by_cases hu : 0 < u
 ·rw [en_ediv hm hd hu]
  refine ⟨Int.ediv_nonneg (Int.mul_nonneg hm hd) (by omega), ?_⟩
  have a3 : m * dp l k ≤ u * dp l k := Int.mul_le_mul_of_nonneg_right hmu hd
  have a4 : m * dp l k / u ≤ u * dp l k / u := Int.ediv_le_ediv hu a3
  rw [Int.mul_ediv_cancel_left _ (by omega)] at a4
  exact a4
 ·unfold en
  rw [if_neg hu]
  exact ⟨Int.le_refl _, hd⟩
theorem en_full {u : Int} {l : Rows} {k : Nat} (hd : 0 ≤ dp l k) (hu0 : 0 ≤ u) (hdu : dp l k ≤ u) : en u u l k = dp l k := by
 by_cases hu : 0 < u
 ·rw [en_ediv (by omega) hd hu, Int.mul_ediv_cancel_left _ (by omega)]
 ·unfold en
  rw [if_neg hu]
  omega
theorem en_last {m u : Int} {l : Rows} {k : Nat} (hm : 0 ≤ m) (hmu : m ≤ u) (e : dp l k = u) (hd : 0 ≤ dp l k) : en m u l k = m := by
 by_cases hu : 0 < u
 ·rw [en_ediv hm hd hu, e, Int.mul_ediv_cancel _ (by omega)]
 ·unfold en
  rw [if_neg hu]
  omega
theorem en_more {m m' u : Int} {l : Rows} {k : Nat} (hm : 0 ≤ m) (h : m ≤ m') (hd : 0 ≤ dp l k) : en m u l k ≤ en m' u l k := by
 by_cases hu : 0 < u
 ·rw [en_ediv hm hd hu, en_ediv (by omega) hd hu]
  exact Int.ediv_le_ediv hu (Int.mul_le_mul_of_nonneg_right h hd)
 ·unfold en
  rw [if_neg hu, if_neg hu]
  exact Int.le_refl _
theorem wt_sum (m u : Int) (l : Rows) : ∀ k, sm (wt m u l) k = sm (lo l) k + en m u l k
 | 0 => by rw [en_zero]; rfl
 | k + 1 => by
  simp only [sm]
  rw [wt_sum m u l k]
  unfold wt
  omega
theorem len_test (n : Int) (h : H) (K : V → H → Prop) (hK : K (.test (decide (0 ≤ n ∧ n ≤ 1000000))) h) : SemF Try.prog 26 [.int .i64 n] h K := by
 refine SemF.test ?_
 refine enter tt_ok Try.func26 (nt := 9) (cd := body Try.f26) rfl rfl rfl rfl ?_
 intro _; refine ⟨fun g => ?_, fun g => ?_⟩
 ·have g := of_decide_eq_true (show decide (n ≥ 0) = true from g)
  intro _
  refine ⟨_, .inr rfl, ?_⟩
  have : decide (0 ≤ n ∧ n ≤ 1000000) = decide (n ≤ 1000000) := by
   by_cases e : n ≤ 1000000
   ·rw [decide_eq_true e, decide_eq_true (show 0 ≤ n ∧ n ≤ 1000000 from ⟨by omega, e⟩)]
   ·rw [decide_eq_false e, decide_eq_false (fun m => e m.2)]
  rw [← this]; exact hK
 ·have g := of_decide_eq_false (show decide (n ≥ 0) = false from g)
  intro _
  refine ⟨false, .inl rfl, ?_⟩
  have : decide (0 ≤ n ∧ n ≤ 1000000) = false := decide_eq_false (fun m => by have := m.1; omega)
  rw [← this]; exact hK
theorem rlen_test (n : Int) (h : H) (K : V → H → Prop) (hK : K (.test (decide (0 ≤ n ∧ n ≤ 1000000))) h) : SemF Try.prog 28 [.int .i64 n] h K := by
 refine SemF.test ?_
 refine enter tt_ok Try.func28 (nt := 9) (cd := body Try.f28) rfl rfl rfl rfl ?_
 intro _; refine ⟨fun g => ?_, fun g => ?_⟩
 ·have g := of_decide_eq_true (show decide (n ≥ 0) = true from g)
  intro _
  refine ⟨_, .inr rfl, ?_⟩
  have : decide (0 ≤ n ∧ n ≤ 1000000) = decide (n ≤ 1000000) := by
   by_cases e : n ≤ 1000000
   ·rw [decide_eq_true e, decide_eq_true (show 0 ≤ n ∧ n ≤ 1000000 from ⟨by omega, e⟩)]
   ·rw [decide_eq_false e, decide_eq_false (fun m => e m.2)]
  rw [← this]; exact hK
 ·have g := of_decide_eq_false (show decide (n ≥ 0) = false from g)
  intro _
  refine ⟨false, .inl rfl, ?_⟩
  have : decide (0 ≤ n ∧ n ≤ 1000000) = false := decide_eq_false (fun m => by have := m.1; omega)
  rw [← this]; exact hK
def ND (a b : Int) : Prop := (0 ≤ a ∧ a ≤ 1000000) ∧ (0 ≤ b ∧ b ≤ 1000000) ∧ a ≤ b
instance decND (a b : Int) : Decidable (ND a b) := inferInstanceAs (Decidable (_ ∧ _))
theorem need_ok (a b : Int) : SemF Try.prog 23 [.agg [.int .i64 a, .int .i64 b]] ⟨0, 0, []⟩ (fun v _ => v = .test (decide (ND a b)) ∧ nameless v = true) := by
 refine SemF.test ?_
 refine enter tt_ok Try.func23 (nt := 18) (cd := body Try.f23) rfl rfl rfl rfl ?_
 intro _
 refine len_test _ _ _ ?_
 intro _; refine ⟨fun g => ?_, fun g => ?_⟩
 rotate_left
 ·have g := of_decide_eq_false (show decide (0 ≤ a ∧ a ≤ 1000000) = false from g)
  intro _
  exact ⟨false, .inl rfl, by rw [decide_eq_false (fun h : ND a b => g h.1)], rfl⟩
 have g1 := of_decide_eq_true (show decide (0 ≤ a ∧ a ≤ 1000000) = true from g)
 intro _
 refine len_test _ _ _ ?_
 intro _; refine ⟨fun g => ?_, fun g => ?_⟩
 rotate_left
 ·have g := of_decide_eq_false (show decide (0 ≤ b ∧ b ≤ 1000000) = false from g)
  intro _
  exact ⟨false, .inl rfl, by rw [decide_eq_false (fun h : ND a b => g h.2.1)], rfl⟩
 have g2 := of_decide_eq_true (show decide (0 ≤ b ∧ b ≤ 1000000) = true from g)
 intro _
 refine ⟨_, .inr rfl, ?_, rfl⟩
 by_cases e : a ≤ b
 ·rw [decide_eq_true e, decide_eq_true (show ND a b from ⟨g1, g2, e⟩)]
 ·rw [decide_eq_false e, decide_eq_false (fun h : ND a b => e h.2.2)]
theorem rneed_ok (a b : Int) : SemF Try.prog 25 [.agg [.int .i64 a, .int .i64 b]] ⟨0, 0, []⟩ (fun v _ => v = .test (decide (ND a b)) ∧ nameless v = true) := by
 refine SemF.test ?_
 refine enter tt_ok Try.func25 (nt := 22) (cd := body Try.f25) rfl rfl rfl rfl ?_
 intro _
 refine rlen_test _ _ _ ?_
 intro _
 refine rlen_test _ _ _ ?_
 intro _; refine ⟨fun g => ?_, fun g => ?_⟩
 rotate_left
 ·have g := of_decide_eq_false (show decide (0 ≤ a ∧ a ≤ 1000000) = false from g)
  intro _
  exact ⟨false, .inl rfl, by rw [decide_eq_false (fun h : ND a b => g h.1)], rfl⟩
 have g1 := of_decide_eq_true (show decide (0 ≤ a ∧ a ≤ 1000000) = true from g)
 intro _; refine ⟨fun g => ?_, fun g => ?_⟩
 rotate_left
 ·have g := of_decide_eq_false (show decide (0 ≤ b ∧ b ≤ 1000000) = false from g)
  intro _
  exact ⟨false, .inl rfl, by rw [decide_eq_false (fun h : ND a b => g h.2.1)], rfl⟩
 have g2 := of_decide_eq_true (show decide (0 ≤ b ∧ b ≤ 1000000) = true from g)
 intro _
 refine ⟨_, .inr rfl, ?_, rfl⟩
 by_cases e : a ≤ b
 ·rw [decide_eq_true e, decide_eq_true (show ND a b from ⟨g1, g2, e⟩)]
 ·rw [decide_eq_false e, decide_eq_false (fun h : ND a b => e h.2.2)]
abbrev UIdx (l : Rows) := { k : Nat // k ≤ l.length ∧ k ≤ 80 ∧ ∀ i, i < k → Nd l i }
theorem nd_succ {l : Rows} {k : Nat} (hm : ∀ i, i < k → Nd l i) (h : Nd l k) : ∀ i, i < k + 1 → Nd l i := fun i hi => by
 by_cases e : i = k
 ·subst e; exact h
 ·exact hm i (by omega)
def tab : Nat → (Nat → Int) → List Int
 | 0, _ => []
 | k + 1, f => tab k f ++ [f k]
theorem tab_len (k : Nat) (f : Nat → Int) : (tab k f).length = k := by
 induction k with
 | zero => rfl
 | succ k ih => simp [tab, ih]
theorem tab_get {f : Nat → Int} {k i : Nat} (h : i < k) : (tab k f).getD i 0 = f i := by
 induction k with
 | zero => omega
 | succ k ih =>
  show (tab k f ++ [f k]).getD i 0 = f i
  by_cases e : i = k
  ·subst e
   rw [List.getD_eq_getElem?_getD, List.getElem?_append_right (by rw [tab_len]; exact Nat.le_refl _), tab_len]
   simp
  ·rw [List.getD_eq_getElem?_getD, List.getElem?_append_left (by rw [tab_len]; omega), ← List.getD_eq_getElem?_getD]
   exact ih (by omega)
def wr (l : Rows) (s gp : Int) : List Int × Int := if WOk l s gp then (if sm (lo l) l.length > lft l s gp then ([], 22) else (tab l.length (wt (mor l s gp) (suu l) l), 0)) else ([], 1)
def WQ (l : Rows) (s gp : Int) : V → Go.Vm2.H → Prop := fun v h' => v = .tup [.grw 1 (wr l s gp).1.length, .int .i64 (wr l s gp).2] ∧ h' = ⟨2, 1, [(1, .arr [.int .i64] .grow (.ints (wr l s gp).1))]⟩
set_option maxHeartbeats 4000000 in
theorem widths_ok (l : Rows) (s gp : Int) (hl : l.length ≤ 9223372036854775807) : SemF Try.prog 15 [.slc 0 2 0 l.length, .int .i64 s, .int .i64 gp] ⟨1, 1, [(0, .arr [.int .i64, .int .i64] .rd (.recs l))]⟩ (WQ l s gp) := by
 refine SemF.ret ?_
 refine enter tt_ok Try.func15 (nt := 82) (cd := body Try.f15) rfl rfl rfl rfl ?_
 have nil : ∀ e, wr l s gp = ([], e) → ∀ nx hx, Nat.ble 1 nx = true → Ret 1 (WQ l s gp) (.tup [.nils, .int .i64 e]) ⟨nx, 1, hx⟩ := fun e he nx hx hn => by
  refine ⟨[(1, none)], .tup [.grw 1 0, .int .i64 e], ⟨2, 1, [(1, .arr [.int .i64] .grow (.ints []))]⟩, rfl, rfl, rfl, rfl, ?_, ?_, ?_, ?_⟩
  ·and_intros<;>try first|exact trivial|exact rfl
  ·and_intros<;>try first|exact trivial|exact rfl
  ·rw [he]; rfl
  ·rw [he]
 have bad : ¬ WOk l s gp → ∀ nx hx, Nat.ble 1 nx = true → Ret 1 (WQ l s gp) (.tup [.nils, .int .i64 1]) ⟨nx, 1, hx⟩ := fun he => nil 1 (by unfold wr; rw [if_neg he])
 intro _; refine ⟨fun g => ?_, fun g => ?_⟩
 ·have g1 := of_decide_eq_true (show decide ((l.length : Int) < 1) = true from g)
  intro _
  exact bad (fun h => by have := h.1.1; omega) _ _ rfl
 have n1 := of_decide_eq_false (show decide ((l.length : Int) < 1) = false from g)
 intro _; refine ⟨fun g => ?_, fun g => ?_⟩
 ·have g1 := of_decide_eq_true (show decide ((l.length : Int) > 64) = true from g)
  intro _
  exact bad (fun h => by have := h.1.2; omega) _ _ rfl
 have n2 := of_decide_eq_false (show decide ((l.length : Int) > 64) = false from g)
 intro _
 refine len_test _ _ _ ?_
 intro _; refine ⟨fun g => ?_, fun g => ?_⟩
 ·have g : (!decide (0 ≤ s ∧ s ≤ 1000000)) = true := g
  rw [Bool.not_eq_true'] at g
  have g := of_decide_eq_false g
  intro _
  exact bad (fun h => g h.2.1) _ _ rfl
 have g : (!decide (0 ≤ s ∧ s ≤ 1000000)) = false := g
 rw [Bool.not_eq_false'] at g
 have hs := of_decide_eq_true g
 intro _; refine ⟨fun g => ?_, fun g => ?_⟩
 ·have g := of_decide_eq_true (show decide (gp < 0) = true from g)
  intro _
  exact bad (fun h => by have := h.2.2.1.1; omega) _ _ rfl
 have p1 := of_decide_eq_false (show decide (gp < 0) = false from g)
 intro _; refine ⟨fun g => ?_, fun g => ?_⟩
 ·have g := of_decide_eq_true (show decide (gp > 100000) = true from g)
  intro _
  exact bad (fun h => by have := h.2.2.1.2; omega) _ _ rfl
 have p2 := of_decide_eq_false (show decide (gp > 100000) = false from g)
 intro _
 refine loop2 tt_ok [39, 8, 9] [] 1 (fun k : { k : Nat // k ≤ l.length ∧ ∀ i, i < k → Nd l i } => [(39, .int .i64 (k : Nat)), (8, .int .i64 (sm (lo l) k)), (9, .int .i64 (sm (hi l) k))]) (fun _ => []) (fun k => l.length - k) ⟨0, by omega, fun i h => by omega⟩ ?_
 intro _
 refine ⟨⟨th [] 1, rfl, rfl, rfl, rfl, rfl, rfl, ?_, ?_⟩, ?_⟩
 ·and_intros<;>try first|exact trivial|exact rfl
 ·and_intros<;>try first|exact trivial|exact rfl
 intro ⟨k, hk, hmk⟩
 have z : 0 + k = k := Nat.zero_add k
 have bl := sm_bd (f := lo l) (n := k) (fun i hi => (hmk i hi).1) k (Nat.le_refl _)
 have bh := sm_bd (f := hi l) (n := k) (fun i hi => (hmk i hi).2.1) k (Nat.le_refl _)
 intro _; refine ⟨fun g => ?_, fun g => ?_⟩
 ·have hkl := of_decide_eq_true (show decide ((k : Int) < (l.length : Int)) = true from g)
  intro _; refine ⟨show 0 ≤ (k : Int) ∧ (k : Int) < (l.length : Int) by omega, ?_⟩
  intro _; refine ⟨show 0 + (k : Int).toNat < l.length by omega, ?_⟩
  intro _
  refine call_pure [] (need_ok (lo l (0 + k)) (hi l (0 + k))) rfl rfl rfl ?_ ?_ ?_
  ·and_intros<;>try first|exact trivial|exact rfl
  ·and_intros<;>try first|exact trivial|exact rfl
  intro v hv _
  subst hv
  intro _; refine ⟨fun g => ?_, fun g => ?_⟩
  ·have g : (!decide (ND (lo l (0 + k)) (hi l (0 + k)))) = true := g
   rw [z, Bool.not_eq_true'] at g
   have g := of_decide_eq_false g
   intro _
   exact bad (fun h => g (h.2.2.2 k (by omega))) _ _ rfl
  have g : (!decide (ND (lo l (0 + k)) (hi l (0 + k)))) = false := g
  rw [z, Bool.not_eq_false'] at g
  have g := of_decide_eq_true g
  have g0 := g.1
  have g1 := g.2.1
  refine ⟨⟨k + 1, by omega, nd_succ hmk g⟩, by simp; omega, th [] 1, rfl, rfl, rfl, rfl, rfl, rfl, ?_, ?_⟩
  ·and_intros<;>try first|exact trivial|exact rfl
   ·exact (wrap_nat k (by omega)).symm
   ·show sm (lo l) k + lo l k = IntKind.i64.wrap (sm (lo l) k + lo l (0 + k))
    rw [z, wrapS _ ⟨by omega, by omega⟩]
   ·show sm (hi l) k + hi l k = IntKind.i64.wrap (sm (hi l) k + hi l (0 + k))
    rw [z, wrapS _ ⟨by omega, by omega⟩]
  ·and_intros<;>try first|exact trivial|exact rfl
 have hkl := of_decide_eq_false (show decide ((k : Int) < (l.length : Int)) = false from g)
 have hkl : k = l.length := by omega
 subst hkl
 have hW : WOk l s gp := ⟨⟨by omega, by omega⟩, hs, ⟨by omega, by omega⟩, hmk⟩
 have gb := gap_bd hW
 have eL : IntKind.i64.wrap (s - IntKind.i64.wrap (gp * IntKind.i64.wrap ((l.length : Int) - 1))) = lft l s gp := by
  rw [wrapS ((l.length : Int) - 1) ⟨by omega, by omega⟩, wrapS (gp * ((l.length : Int) - 1)) ⟨by omega, by omega⟩, wrapS _ ⟨by omega, by omega⟩]
  rfl
 intro _; refine ⟨fun g => ?_, fun g => ?_⟩
 ·have g : decide (sm (lo l) l.length > IntKind.i64.wrap (s - IntKind.i64.wrap (gp * IntKind.i64.wrap ((l.length : Int) - 1)))) = true := g
  rw [eL] at g
  have g := of_decide_eq_true g
  intro _
  exact nil 22 (by unfold wr; rw [if_pos hW, if_pos g]) _ _ rfl
 have g : decide (sm (lo l) l.length > IntKind.i64.wrap (s - IntKind.i64.wrap (gp * IntKind.i64.wrap ((l.length : Int) - 1)))) = false := g
 rw [eL] at g
 have gf := of_decide_eq_false g
 have mb := mor_bd hW (by omega)
 have eM : IntKind.i64.wrap (min (IntKind.i64.wrap (s - IntKind.i64.wrap (gp * IntKind.i64.wrap ((l.length : Int) - 1)))) (sm (hi l) l.length) - sm (lo l) l.length) = mor l s gp := by
  rw [eL]; exact wrapS _ ⟨by unfold mor at mb; omega, by unfold mor at mb; omega⟩
 have eU : IntKind.i64.wrap (sm (hi l) l.length - sm (lo l) l.length) = suu l := wrapS _ ⟨by omega, by omega⟩
 intro _
 refine enter tt_ok Try.func27 (nt := 8) (cd := body Try.f27) rfl rfl rfl rfl ?_
 intro _
 intro _
 refine range_ok ?_
 intro _
 refine enter tt_ok Try.func34 (nt := 41) (cd := body Try.f34) rfl rfl rfl rfl ?_
 intro _
 refine loop2 tt_ok [12, 5, 6] [1, 7] 8 (fun k : Fin (l.length + 1) => [(12, .int .i64 (k : Nat)), (5, .int .i64 (dp l k)), (6, .int .i64 (en (mor l s gp) (suu l) l k))]) (fun k => [(1, .cells [.grw 7 (k : Nat)]), (7, .arr [.int .i64] .grow (.ints (tab (k : Nat) (wt (mor l s gp) (suu l) l))))]) (fun k => l.length - k) ⟨0, by omega⟩ ?_
 intro _
 refine ⟨⟨th [(7, none)] 8, rfl, rfl, rfl, rfl, rfl, rfl, ?_, ?_⟩, ?_⟩
 ·and_intros<;>try first|exact trivial|exact rfl
  exact en_zero _ _ _
 ·and_intros<;>try first|exact trivial|exact rfl
 intro ⟨k, hk⟩
 have z : 0 + k = k := Nat.zero_add k
 intro _; refine ⟨fun g => ?_, fun g => ?_⟩
 ·have hkl := of_decide_eq_true (show decide ((k : Int) < (l.length : Int)) = true from g)
  have hkn : k < l.length := by omega
  have d0 := dp_bd hW k (by omega)
  have d1 := dp_bd hW (k + 1) (by omega)
  have x0 := lo_bd hW k hkn
  have x1 := hi_bd hW k hkn
  have x2 := df_bd hW k hkn
  have e0 := en_bd (m := mor l s gp) (u := suu l) mb.1 mb.2.2 d0.1
  have e1 := en_bd (m := mor l s gp) (u := suu l) mb.1 mb.2.2 d1.1
  have eB : IntKind.i64.wrap (dp l k + IntKind.i64.wrap (hi l (0 + k) - lo l (0 + k))) = dp l (k + 1) := by
   rw [z, wrapS (hi l k - lo l k) ⟨by omega, by omega⟩, wrapS _ ⟨by omega, by omega⟩]
   rfl
  intro _; refine ⟨show 0 ≤ (k : Int) ∧ (k : Int) < (l.length : Int) by omega, ?_⟩
  intro _; refine ⟨show 0 + (k : Int).toNat < l.length by omega, ?_⟩
  intro _; refine ⟨fun g => ?_, fun g => ?_⟩
  rotate_left
  ·have g : decide (IntKind.i64.wrap (sm (hi l) l.length - sm (lo l) l.length) > 0) = false := g
   rw [eU] at g
   have g := of_decide_eq_false g
   have eE : (0 : Int) = en (mor l s gp) (suu l) l (k + 1) := by unfold en; rw [if_neg (by omega)]
   intro _
   refine yield_ok tt_ok ?_
   intro _; refine ⟨rfl, ?_⟩
   intro _; refine ⟨fun g3 => by simp at g3, fun _ => ?_⟩
   refine ⟨⟨(tab_len k _).symm, show k + 1 ≤ 4611686018427387904 by omega, show (k + 1) * 8 ≤ 140737488355328 by omega⟩, ?_⟩
   intro _
   refine ⟨⟨k + 1, by omega⟩, by simp; omega, th [(7, some 10)] 8, rfl, rfl, rfl, rfl, rfl, rfl, ?_, ?_⟩
   ·and_intros<;>try first|exact trivial|exact rfl
    ·exact (wrap_nat k (by omega)).symm
    ·exact eB.symm
    ·exact eE.symm
   ·and_intros<;>try first|exact trivial|exact rfl
    show tab k (wt (mor l s gp) (suu l) l) ++ [wt (mor l s gp) (suu l) l k] = tab k (wt (mor l s gp) (suu l) l) ++ [IntKind.i64.wrap (IntKind.i64.wrap (lo l (0 + k) + 0) - en (mor l s gp) (suu l) l k)]
    have : wt (mor l s gp) (suu l) l k = IntKind.i64.wrap (IntKind.i64.wrap (lo l (0 + k) + 0) - en (mor l s gp) (suu l) l k) := by
     rw [z, wrapS (lo l k + 0) ⟨by omega, by omega⟩, wrapS _ ⟨by omega, by omega⟩]
     unfold wt
     rw [← eE]
    rw [this]
  have g : decide (IntKind.i64.wrap (sm (hi l) l.length - sm (lo l) l.length) > 0) = true := g
  rw [eU] at g
  have g := of_decide_eq_true g
  have mm : 0 ≤ mor l s gp * dp l (k + 1) ∧ mor l s gp * dp l (k + 1) ≤ 64000000000000 := by
   refine ⟨Int.mul_nonneg mb.1 d1.1, ?_⟩
   have a1 : mor l s gp * dp l (k + 1) ≤ 1000000 * dp l (k + 1) := Int.mul_le_mul_of_nonneg_right mb.2.1 d1.1
   omega
  have eE : IntKind.i64.wrap ((IntKind.i64.wrap (IntKind.i64.wrap (min (IntKind.i64.wrap (s - IntKind.i64.wrap (gp * IntKind.i64.wrap ((l.length : Int) - 1)))) (sm (hi l) l.length) - sm (lo l) l.length) * IntKind.i64.wrap (dp l k + IntKind.i64.wrap (hi l (0 + k) - lo l (0 + k))))).tdiv (IntKind.i64.wrap (sm (hi l) l.length - sm (lo l) l.length))) = en (mor l s gp) (suu l) l (k + 1) := by
   rw [eM, eU, eB, wrapS (mor l s gp * dp l (k + 1)) ⟨by omega, by omega⟩]
   have : en (mor l s gp) (suu l) l (k + 1) = (mor l s gp * dp l (k + 1)).tdiv (suu l) := by unfold en; rw [if_pos g]
   rw [← this]
   exact wrapS _ ⟨by omega, by omega⟩
  intro _; refine ⟨show IntKind.i64.wrap (sm (hi l) l.length - sm (lo l) l.length) ≠ 0 by rw [eU]; omega, ?_⟩
  intro _
  refine yield_ok tt_ok ?_
  intro _; refine ⟨rfl, ?_⟩
  intro _; refine ⟨fun g3 => by simp at g3, fun _ => ?_⟩
  refine ⟨⟨(tab_len k _).symm, show k + 1 ≤ 4611686018427387904 by omega, show (k + 1) * 8 ≤ 140737488355328 by omega⟩, ?_⟩
  intro _
  refine ⟨⟨k + 1, by omega⟩, by simp; omega, th [(7, some 10)] 8, rfl, rfl, rfl, rfl, rfl, rfl, ?_, ?_⟩
  ·and_intros<;>try first|exact trivial|exact rfl
   ·exact (wrap_nat k (by omega)).symm
   ·exact eB.symm
   ·exact eE.symm
  ·and_intros<;>try first|exact trivial|exact rfl
   show tab k (wt (mor l s gp) (suu l) l) ++ [wt (mor l s gp) (suu l) l k] = tab k (wt (mor l s gp) (suu l) l) ++ [IntKind.i64.wrap (IntKind.i64.wrap (lo l (0 + k) + IntKind.i64.wrap ((IntKind.i64.wrap (IntKind.i64.wrap (min (IntKind.i64.wrap (s - IntKind.i64.wrap (gp * IntKind.i64.wrap ((l.length : Int) - 1)))) (sm (hi l) l.length) - sm (lo l) l.length) * IntKind.i64.wrap (dp l k + IntKind.i64.wrap (hi l (0 + k) - lo l (0 + k))))).tdiv (IntKind.i64.wrap (sm (hi l) l.length - sm (lo l) l.length)))) - en (mor l s gp) (suu l) l k)]
   rw [eE, z, wrapS (lo l k + en (mor l s gp) (suu l) l (k + 1)) ⟨by omega, by omega⟩, wrapS _ ⟨by omega, by omega⟩]
   rfl
 have g : decide ((k : Int) < (l.length : Int)) = false := g
 have hkl := of_decide_eq_false g
 have hkl : k = l.length := by omega
 subst hkl
 have e2 : wr l s gp = (tab l.length (wt (mor l s gp) (suu l) l), 0) := by unfold wr; rw [if_pos hW, if_neg gf]
 intro _
 intro _
 refine ⟨[(1, some 7)], .tup [.grw 1 (wr l s gp).1.length, .int .i64 (wr l s gp).2], ⟨2, 1, [(1, .arr [.int .i64] .grow (.ints (wr l s gp).1))]⟩, rfl, rfl, rfl, rfl, ?_, ?_, ⟨rfl, rfl⟩⟩
 ·rw [e2]
  and_intros<;>try first|exact trivial|exact rfl
  exact tab_len _ _
 ·rw [e2]
  and_intros<;>try first|exact trivial|exact rfl
abbrev KT : Kt := ktOf tt
def rowR (L : Rows) (i : Nat) : Rows := ((L.getD i []).getD 0 (D.n 0)).ac.asR
def rowI (L : Rows) (i : Nat) : List Int := ((L.getD i []).getD 0 (D.n 0)).ac.asI
def Few (n : Nat) (ln : Nat → Nat) : Prop := n ≤ 40 ∧ ∀ i, i < n → ln i ≤ 70
open Classical in
theorem few_ok (L : Rows) (hl : L.length ≤ 9223372036854775807) : SemF Try.prog 10 [.lst KT 23 (.recs L)] ⟨0, 0, []⟩ (fun v _ => v = .test (decide (Few L.length fun i => (rowR L i).length)) ∧ nameless v = true) := by
 refine SemF.test ?_
 refine enter tt_ok Try.func10 (nt := 23) (cd := body Try.f10) rfl rfl rfl rfl ?_
 intro _
 refine loop2 tt_ok [3] [] 0 (fun k : { k : Nat // k ≤ L.length ∧ k ≤ 50 ∧ ∀ i, i < k → (rowR L i).length ≤ 70 } => [(3, .int .i64 (k : Nat))]) (fun _ => []) (fun k => 50 - k) ⟨0, by omega, by omega, fun i h => by omega⟩ ?_
 intro _
 refine ⟨⟨th [] 0, rfl, rfl, rfl, rfl, rfl, rfl, ?_, ?_⟩, ?_⟩
 ·and_intros<;>try first|exact trivial|exact rfl
 ·and_intros<;>try first|exact trivial|exact rfl
 intro ⟨k, hk, hk5, hm⟩
 have fin : (k = L.length ∨ k = 50) → ∃ b, (V.test (decide ((L.length : Int) ≤ 40)) = .bool b ∨ V.test (decide ((L.length : Int) ≤ 40)) = .test b) ∧ V.test b = .test (decide (Few L.length fun i => (rowR L i).length)) ∧ nameless (V.test b) = true := by
  intro hh
  refine ⟨_, .inr rfl, ?_, rfl⟩
  congr 1
  by_cases e : L.length ≤ 40
  ·rw [decide_eq_true (show (L.length : Int) ≤ 40 by omega), decide_eq_true (show Few _ _ from ⟨e, fun i hi => hm i (by omega)⟩)]
  ·rw [decide_eq_false (show ¬ (L.length : Int) ≤ 40 by omega), decide_eq_false (fun h : Few _ _ => e h.1)]
 intro _; refine ⟨fun g => ?_, fun g => ?_⟩
 rotate_left
 ·have g := of_decide_eq_false (show decide ((k : Int) < (L.length : Int)) = false from g)
  intro _
  exact fin (.inl (by omega))
 have g1 := of_decide_eq_true (show decide ((k : Int) < (L.length : Int)) = true from g)
 intro _; refine ⟨fun g => ?_, fun g => ?_⟩
 rotate_left
 ·have g := of_decide_eq_false (show decide ((k : Int) < 50) = false from g)
  intro _
  exact fin (.inr (by omega))
 have g2 := of_decide_eq_true (show decide ((k : Int) < 50) = true from g)
 intro _; refine ⟨show 0 ≤ (k : Int) ∧ (k : Int) < (L.length : Int) by omega, ?_⟩
 intro _; refine ⟨fun g => ?_, fun g => ?_⟩
 ·have g := of_decide_eq_true (show decide (((rowR L k).length : Int) > 70) = true from g)
  intro _
  exact ⟨false, .inl rfl, by rw [decide_eq_false (fun h : Few L.length (fun i => (rowR L i).length) => by have : (rowR L k).length ≤ 70 := h.2 k (by omega); omega)], rfl⟩
 have g := of_decide_eq_false (show decide (((rowR L k).length : Int) > 70) = false from g)
 refine ⟨⟨k + 1, by omega, by omega, fun i hi => ?_⟩, by simp; omega, th [] 0, rfl, rfl, rfl, rfl, rfl, rfl, ?_, ?_⟩
 ·by_cases e : i = k
  ·subst e; omega
  ·exact hm i (by omega)
 ·and_intros<;>try first|exact trivial|exact rfl
  exact (wrap_nat k (by omega)).symm
 ·and_intros<;>try first|exact trivial|exact rfl
open Classical in
theorem fewI_ok (L : Rows) (hl : L.length ≤ 9223372036854775807) : SemF Try.prog 11 [.lst KT 24 (.recs L)] ⟨0, 0, []⟩ (fun v _ => v = .test (decide (Few L.length fun i => (rowI L i).length)) ∧ nameless v = true) := by
 refine SemF.test ?_
 refine enter tt_ok Try.func11 (nt := 23) (cd := body Try.f11) rfl rfl rfl rfl ?_
 intro _
 refine loop2 tt_ok [3] [] 0 (fun k : { k : Nat // k ≤ L.length ∧ k ≤ 50 ∧ ∀ i, i < k → (rowI L i).length ≤ 70 } => [(3, .int .i64 (k : Nat))]) (fun _ => []) (fun k => 50 - k) ⟨0, by omega, by omega, fun i h => by omega⟩ ?_
 intro _
 refine ⟨⟨th [] 0, rfl, rfl, rfl, rfl, rfl, rfl, ?_, ?_⟩, ?_⟩
 ·and_intros<;>try first|exact trivial|exact rfl
 ·and_intros<;>try first|exact trivial|exact rfl
 intro ⟨k, hk, hk5, hm⟩
 have fin : (k = L.length ∨ k = 50) → ∃ b, (V.test (decide ((L.length : Int) ≤ 40)) = .bool b ∨ V.test (decide ((L.length : Int) ≤ 40)) = .test b) ∧ V.test b = .test (decide (Few L.length fun i => (rowI L i).length)) ∧ nameless (V.test b) = true := by
  intro hh
  refine ⟨_, .inr rfl, ?_, rfl⟩
  congr 1
  by_cases e : L.length ≤ 40
  ·rw [decide_eq_true (show (L.length : Int) ≤ 40 by omega), decide_eq_true (show Few _ _ from ⟨e, fun i hi => hm i (by omega)⟩)]
  ·rw [decide_eq_false (show ¬ (L.length : Int) ≤ 40 by omega), decide_eq_false (fun h : Few _ _ => e h.1)]
 intro _; refine ⟨fun g => ?_, fun g => ?_⟩
 rotate_left
 ·have g := of_decide_eq_false (show decide ((k : Int) < (L.length : Int)) = false from g)
  intro _
  exact fin (.inl (by omega))
 have g1 := of_decide_eq_true (show decide ((k : Int) < (L.length : Int)) = true from g)
 intro _; refine ⟨fun g => ?_, fun g => ?_⟩
 rotate_left
 ·have g := of_decide_eq_false (show decide ((k : Int) < 50) = false from g)
  intro _
  exact fin (.inr (by omega))
 have g2 := of_decide_eq_true (show decide ((k : Int) < 50) = true from g)
 intro _; refine ⟨show 0 ≤ (k : Int) ∧ (k : Int) < (L.length : Int) by omega, ?_⟩
 intro _; refine ⟨fun g => ?_, fun g => ?_⟩
 ·have g := of_decide_eq_true (show decide (((rowI L k).length : Int) > 70) = true from g)
  intro _
  exact ⟨false, .inl rfl, by rw [decide_eq_false (fun h : Few L.length (fun i => (rowI L i).length) => by have : (rowI L k).length ≤ 70 := h.2 k (by omega); omega)], rfl⟩
 have g := of_decide_eq_false (show decide (((rowI L k).length : Int) > 70) = false from g)
 refine ⟨⟨k + 1, by omega, by omega, fun i hi => ?_⟩, by simp; omega, th [] 0, rfl, rfl, rfl, rfl, rfl, rfl, ?_, ?_⟩
 ·by_cases e : i = k
  ·subst e; omega
  ·exact hm i (by omega)
 ·and_intros<;>try first|exact trivial|exact rfl
  exact (wrap_nat k (by omega)).symm
 ·and_intros<;>try first|exact trivial|exact rfl
def gr (x : Int) (l : List Int) : Nat → Int
 | 0 => x
 | k + 1 => max (gr x l k) (l.getD k 0)
theorem grS_ok (x : Int) (l : List Int) (hl : l.length ≤ 9223372036854775807) : SemF Try.prog 24 [.int .i64 x, .slc 0 1 0 l.length] ⟨1, 1, [(0, .arr [.int .i64] .rd (.ints l))]⟩ (fun v _ => v = .int .i64 (gr x l l.length) ∧ nameless v = true) := by
 refine enter tt_ok Try.func24 (nt := 18) (cd := body Try.f24) rfl rfl rfl rfl ?_
 intro _
 refine loop2 tt_ok [9, 0] [] 1 (fun k : Fin (l.length + 1) => [(9, .int .i64 (k : Nat)), (0, .int .i64 (gr x l k))]) (fun _ => []) (fun k => l.length - k) ⟨0, by omega⟩ ?_
 intro _
 refine ⟨⟨th [] 1, rfl, rfl, rfl, rfl, rfl, rfl, ?_, ?_⟩, ?_⟩
 ·and_intros<;>try first|exact trivial|exact rfl
 ·and_intros<;>try first|exact trivial|exact rfl
 intro ⟨k, hk⟩
 have z : 0 + k = k := Nat.zero_add k
 intro _; refine ⟨fun g => ?_, fun g => ?_⟩
 rotate_left
 ·have g := of_decide_eq_false (show decide ((k : Int) < (l.length : Int)) = false from g)
  have : k = l.length := by omega
  subst this
  intro _
  exact ⟨rfl, rfl⟩
 have g := of_decide_eq_true (show decide ((k : Int) < (l.length : Int)) = true from g)
 intro _; refine ⟨show 0 ≤ (k : Int) ∧ (k : Int) < (l.length : Int) by omega, ?_⟩
 intro _; refine ⟨show 0 + (k : Int).toNat < l.length by omega, ?_⟩
 refine ⟨⟨k + 1, by omega⟩, by simp; omega, th [] 1, rfl, rfl, rfl, rfl, rfl, rfl, ?_, ?_⟩
 ·and_intros<;>try first|exact trivial|exact rfl
  ·exact (wrap_nat k (by omega)).symm
  ·show max (gr x l k) (l.getD k 0) = max (gr x l k) (l.getD (0 + k) 0)
   rw [z]
 ·and_intros<;>try first|exact trivial|exact rfl
theorem grL_ok (x : Int) (l : List Int) (hl : l.length ≤ 9223372036854775807) : SemF Try.prog 24 [.int .i64 x, .lst KT 3 (.ints l)] ⟨0, 0, []⟩ (fun v _ => v = .int .i64 (gr x l l.length) ∧ nameless v = true) := by
 refine enter tt_ok Try.func24 (nt := 18) (cd := body Try.f24) rfl rfl rfl rfl ?_
 intro _
 refine loop2 tt_ok [9, 0] [] 0 (fun k : Fin (l.length + 1) => [(9, .int .i64 (k : Nat)), (0, .int .i64 (gr x l k))]) (fun _ => []) (fun k => l.length - k) ⟨0, by omega⟩ ?_
 intro _
 refine ⟨⟨th [] 0, rfl, rfl, rfl, rfl, rfl, rfl, ?_, ?_⟩, ?_⟩
 ·and_intros<;>try first|exact trivial|exact rfl
 ·and_intros<;>try first|exact trivial|exact rfl
 intro ⟨k, hk⟩
 intro _; refine ⟨fun g => ?_, fun g => ?_⟩
 rotate_left
 ·have g := of_decide_eq_false (show decide ((k : Int) < (l.length : Int)) = false from g)
  have : k = l.length := by omega
  subst this
  intro _
  exact ⟨rfl, rfl⟩
 have g := of_decide_eq_true (show decide ((k : Int) < (l.length : Int)) = true from g)
 intro _; refine ⟨show 0 ≤ (k : Int) ∧ (k : Int) < (l.length : Int) by omega, ?_⟩
 refine ⟨⟨k + 1, by omega⟩, by simp; omega, th [] 0, rfl, rfl, rfl, rfl, rfl, rfl, ?_, ?_⟩
 ·and_intros<;>try first|exact trivial|exact rfl
  exact (wrap_nat k (by omega)).symm
 ·and_intros<;>try first|exact trivial|exact rfl
def SN (l m : Rows) : Prop := l.length = m.length ∧ ∀ i, i < l.length → lo l i = lo m i ∧ hi l i = hi m i
def SI (l m : List Int) : Prop := l.length = m.length ∧ ∀ i, i < l.length → l.getD i 0 = m.getD i 0
open Classical in
theorem sameN_ok (l m : Rows) (hl : l.length ≤ 9223372036854775807) : SemF Try.prog 14 [.slc 0 2 0 l.length, .slc 1 2 0 m.length] ⟨2, 2, [(0, .arr [.int .i64, .int .i64] .rd (.recs l)), (1, .arr [.int .i64, .int .i64] .rd (.recs m))]⟩ (fun v _ => v = .test (decide (SN l m)) ∧ nameless v = true) := by
 refine SemF.test ?_
 refine enter tt_ok Try.func14 (nt := 26) (cd := body Try.f14) rfl rfl rfl rfl ?_
 have no : ¬ SN l m → ∃ b, (V.bool false = .bool b ∨ V.bool false = .test b) ∧ V.test b = .test (decide (SN l m)) ∧ nameless (V.test b) = true := fun h => ⟨false, .inl rfl, by rw [decide_eq_false h], rfl⟩
 intro _; refine ⟨fun g => ?_, fun g => ?_⟩
 ·have g : ((l.length : Int) != (m.length : Int)) = true := g
  intro _
  exact no (fun h => by have := h.1; simp [this] at g)
 have g : ((l.length : Int) != (m.length : Int)) = false := g
 have e0 : (l.length : Int) = (m.length : Int) := by simpa using g
 have e : l.length = m.length := by omega
 intro _
 refine loop2 tt_ok [5] [] 2 (fun k : { k : Nat // k ≤ l.length ∧ ∀ i, i < k → lo l i = lo m i ∧ hi l i = hi m i } => [(5, .int .i64 (k : Nat))]) (fun _ => []) (fun k => l.length - k) ⟨0, by omega, fun i h => by omega⟩ ?_
 intro _
 refine ⟨⟨th [] 2, rfl, rfl, rfl, rfl, rfl, rfl, ?_, ?_⟩, ?_⟩
 ·and_intros<;>try first|exact trivial|exact rfl
 ·and_intros<;>try first|exact trivial|exact rfl
 intro ⟨k, hk, hm⟩
 have z : 0 + k = k := Nat.zero_add k
 intro _; refine ⟨fun g => ?_, fun g => ?_⟩
 rotate_left
 ·have g := of_decide_eq_false (show decide ((k : Int) < (l.length : Int)) = false from g)
  have : k = l.length := by omega
  subst this
  intro _
  exact ⟨true, .inl rfl, by rw [decide_eq_true (show SN l m from ⟨e, hm⟩)], rfl⟩
 have g := of_decide_eq_true (show decide ((k : Int) < (l.length : Int)) = true from g)
 intro _; refine ⟨show 0 ≤ (k : Int) ∧ (k : Int) < (l.length : Int) by omega, ?_⟩
 intro _; refine ⟨show 0 + (k : Int).toNat < l.length by omega, ?_⟩
 intro _; refine ⟨show 0 ≤ (k : Int) ∧ (k : Int) < (m.length : Int) by omega, ?_⟩
 intro _; refine ⟨show 0 + (k : Int).toNat < m.length by omega, ?_⟩
 intro _; refine ⟨by kernel_rfl, ?_⟩
 intro _; refine ⟨fun g => ?_, fun g => ?_⟩
 ·have g : (!((lo l (0 + k) == lo m (0 + k)) && (hi l (0 + k) == hi m (0 + k)))) = true := g
  rw [z] at g
  intro _
  exact no (fun h => by have := h.2 k (by omega); simp [this] at g)
 have g : (!((lo l (0 + k) == lo m (0 + k)) && (hi l (0 + k) == hi m (0 + k)))) = false := g
 rw [z] at g
 have g : lo l k = lo m k ∧ hi l k = hi m k := by simpa using g
 refine ⟨⟨k + 1, by omega, fun i hi' => ?_⟩, by simp; omega, th [] 2, rfl, rfl, rfl, rfl, rfl, rfl, ?_, ?_⟩
 ·by_cases e : i = k
  ·subst e; exact g
  ·exact hm i (by omega)
 ·and_intros<;>try first|exact trivial|exact rfl
  exact (wrap_nat k (by omega)).symm
 ·and_intros<;>try first|exact trivial|exact rfl
open Classical in
theorem sameI_ok (l m : List Int) (hl : l.length ≤ 9223372036854775807) : SemF Try.prog 17 [.slc 0 1 0 l.length, .slc 1 1 0 m.length] ⟨2, 2, [(0, .arr [.int .i64] .rd (.ints l)), (1, .arr [.int .i64] .rd (.ints m))]⟩ (fun v _ => v = .test (decide (SI l m)) ∧ nameless v = true) := by
 refine SemF.test ?_
 refine enter tt_ok Try.func17 (nt := 26) (cd := body Try.f17) rfl rfl rfl rfl ?_
 have no : ¬ SI l m → ∃ b, (V.bool false = .bool b ∨ V.bool false = .test b) ∧ V.test b = .test (decide (SI l m)) ∧ nameless (V.test b) = true := fun h => ⟨false, .inl rfl, by rw [decide_eq_false h], rfl⟩
 intro _; refine ⟨fun g => ?_, fun g => ?_⟩
 ·have g : ((l.length : Int) != (m.length : Int)) = true := g
  intro _
  exact no (fun h => by have := h.1; simp [this] at g)
 have g : ((l.length : Int) != (m.length : Int)) = false := g
 have e0 : (l.length : Int) = (m.length : Int) := by simpa using g
 have e : l.length = m.length := by omega
 intro _
 refine loop2 tt_ok [5] [] 2 (fun k : { k : Nat // k ≤ l.length ∧ ∀ i, i < k → l.getD i 0 = m.getD i 0 } => [(5, .int .i64 (k : Nat))]) (fun _ => []) (fun k => l.length - k) ⟨0, by omega, fun i h => by omega⟩ ?_
 intro _
 refine ⟨⟨th [] 2, rfl, rfl, rfl, rfl, rfl, rfl, ?_, ?_⟩, ?_⟩
 ·and_intros<;>try first|exact trivial|exact rfl
 ·and_intros<;>try first|exact trivial|exact rfl
 intro ⟨k, hk, hm⟩
 have z : 0 + k = k := Nat.zero_add k
 intro _; refine ⟨fun g => ?_, fun g => ?_⟩
 rotate_left
 ·have g := of_decide_eq_false (show decide ((k : Int) < (l.length : Int)) = false from g)
  have : k = l.length := by omega
  subst this
  intro _
  exact ⟨true, .inl rfl, by rw [decide_eq_true (show SI l m from ⟨e, hm⟩)], rfl⟩
 have g := of_decide_eq_true (show decide ((k : Int) < (l.length : Int)) = true from g)
 intro _; refine ⟨show 0 ≤ (k : Int) ∧ (k : Int) < (l.length : Int) by omega, ?_⟩
 intro _; refine ⟨show 0 + (k : Int).toNat < l.length by omega, ?_⟩
 intro _; refine ⟨show 0 ≤ (k : Int) ∧ (k : Int) < (m.length : Int) by omega, ?_⟩
 intro _; refine ⟨show 0 + (k : Int).toNat < m.length by omega, ?_⟩
 intro _; refine ⟨by kernel_rfl, ?_⟩
 intro _; refine ⟨fun g => ?_, fun g => ?_⟩
 ·have g : (l.getD (0 + k) 0 != m.getD (0 + k) 0) = true := g
  rw [z] at g
  intro _
  exact no (fun h => by have := h.2 k (by omega); rw [this] at g; simp at g)
 have g : (l.getD (0 + k) 0 != m.getD (0 + k) 0) = false := g
 rw [z] at g
 have g : l.getD k 0 = m.getD k 0 := by simpa using g
 refine ⟨⟨k + 1, by omega, fun i hi' => ?_⟩, by simp; omega, th [] 2, rfl, rfl, rfl, rfl, rfl, rfl, ?_, ?_⟩
 ·by_cases e : i = k
  ·subst e; exact g
  ·exact hm i (by omega)
 ·and_intros<;>try first|exact trivial|exact rfl
  exact (wrap_nat k (by omega)).symm
 ·and_intros<;>try first|exact trivial|exact rfl
def st (w : List Int) (g : Int) : Nat → Int
 | 0 => 0
 | k + 1 => st w g k + (w.getD k 0 + g)
def SOk (w : List Int) (g : Int) : Prop := (1 ≤ w.length ∧ w.length ≤ 64) ∧ (0 ≤ g ∧ g ≤ 100000) ∧ ∀ i, i < w.length → 0 ≤ w.getD i 0 ∧ w.getD i 0 ≤ 1000000
theorem st_bd {w : List Int} {g : Int} (hg : 0 ≤ g ∧ g ≤ 100000) : ∀ k, (∀ i, i < k → 0 ≤ w.getD i 0 ∧ w.getD i 0 ≤ 1000000) → 0 ≤ st w g k ∧ st w g k ≤ 1100000 * k
 | 0, _ => by simp [st]
 | k + 1, h => by
  have a := st_bd hg k (fun i hi => h i (by omega))
  have b := h k (by omega)
  simp only [st]; omega
theorem gap_test (n : Int) (h : H) (K : V → H → Prop) (hK : K (.test (decide (0 ≤ n ∧ n ≤ 100000))) h) : SemF Try.prog 32 [.int .i64 n] h K := by
 refine SemF.test ?_
 refine enter tt_ok Try.func32 (nt := 9) (cd := body Try.f32) rfl rfl rfl rfl ?_
 intro _; refine ⟨fun g => ?_, fun g => ?_⟩
 ·have g := of_decide_eq_true (show decide (n ≥ 0) = true from g)
  intro _
  refine ⟨_, .inr rfl, ?_⟩
  have : decide (0 ≤ n ∧ n ≤ 100000) = decide (n ≤ 100000) := by
   by_cases e : n ≤ 100000
   ·rw [decide_eq_true e, decide_eq_true (show 0 ≤ n ∧ n ≤ 100000 from ⟨by omega, e⟩)]
   ·rw [decide_eq_false e, decide_eq_false (fun m => e m.2)]
  rw [← this]; exact hK
 ·have g := of_decide_eq_false (show decide (n ≥ 0) = false from g)
  intro _
  refine ⟨false, .inl rfl, ?_⟩
  have : decide (0 ≤ n ∧ n ≤ 100000) = false := decide_eq_false (fun m => by have := m.1; omega)
  rw [← this]; exact hK
theorem tlen_test (n : Int) (h : H) (K : V → H → Prop) (hK : K (.test (decide (0 ≤ n ∧ n ≤ 1000000))) h) : SemF Try.prog 33 [.int .i64 n] h K := by
 refine SemF.test ?_
 refine enter tt_ok Try.func33 (nt := 9) (cd := body Try.f33) rfl rfl rfl rfl ?_
 intro _; refine ⟨fun g => ?_, fun g => ?_⟩
 ·have g := of_decide_eq_true (show decide (n ≥ 0) = true from g)
  intro _
  refine ⟨_, .inr rfl, ?_⟩
  have : decide (0 ≤ n ∧ n ≤ 1000000) = decide (n ≤ 1000000) := by
   by_cases e : n ≤ 1000000
   ·rw [decide_eq_true e, decide_eq_true (show 0 ≤ n ∧ n ≤ 1000000 from ⟨by omega, e⟩)]
   ·rw [decide_eq_false e, decide_eq_false (fun m => e m.2)]
  rw [← this]; exact hK
 ·have g := of_decide_eq_false (show decide (n ≥ 0) = false from g)
  intro _
  refine ⟨false, .inl rfl, ?_⟩
  have : decide (0 ≤ n ∧ n ≤ 1000000) = false := decide_eq_false (fun m => by have := m.1; omega)
  rw [← this]; exact hK
def tz (n : Nat) (f : Nat → Int) (k : Nat) : List Int := tab k f ++ List.replicate (n - k) 0
theorem tz_len (n : Nat) (f : Nat → Int) (k : Nat) (h : k ≤ n) : (tz n f k).length = n := by simp [tz, tab_len]; omega
theorem tz_set (n : Nat) (f : Nat → Int) (k : Nat) (h : k < n) : (tz n f k).set k (f k) = tz n f (k + 1) := by
 unfold tz
 rw [List.set_append_right _ _ (by rw [tab_len]; exact Nat.le_refl _), tab_len, Nat.sub_self]
 have : n - k = (n - (k + 1)) + 1 := by omega
 rw [this, List.replicate_succ, List.set_cons_zero]
 simp [tab]
theorem tz_all (n : Nat) (f : Nat → Int) : tz n f n = tab n f := by simp [tz]
open Classical in
noncomputable def sr (w : List Int) (g : Int) : List Int × Int := if SOk w g then (tab w.length (st w g), 0) else ([], 1)
def SQ (w : List Int) (g : Int) : V → Go.Vm2.H → Prop := fun v h' => v = .tup [.grw 1 (sr w g).1.length, .int .i64 (sr w g).2] ∧ h' = ⟨2, 1, [(1, .arr [.int .i64] .own (.ints (sr w g).1))]⟩
theorem starts_ok (w : List Int) (gp : Int) (hl : w.length ≤ 9223372036854775807) (hw : ∀ i, i < w.length → -9223372036854775808 ≤ w.getD i 0 ∧ w.getD i 0 ≤ 9223372036854775807) : SemF Try.prog 22 [.slc 0 1 0 w.length, .int .i64 gp] ⟨1, 1, [(0, .arr [.int .i64] .rd (.ints w))]⟩ (SQ w gp) := by
 refine SemF.ret ?_
 refine enter tt_ok Try.func22 (nt := 47) (cd := body Try.f22) rfl rfl rfl rfl ?_
 have bad : ¬ SOk w gp → ∀ nx hx, Nat.ble 1 nx = true → Ret 1 (SQ w gp) (.tup [.nils, .int .i64 1]) ⟨nx, 1, hx⟩ := fun he nx hx hn => by
  have e : sr w gp = ([], 1) := by unfold sr; rw [if_neg he]
  refine ⟨[(1, none)], .tup [.grw 1 0, .int .i64 1], ⟨2, 1, [(1, .arr [.int .i64] .own (.ints []))]⟩, rfl, rfl, rfl, rfl, ?_, ?_, ?_, ?_⟩
  ·and_intros<;>try first|exact trivial|exact rfl
  ·and_intros<;>try first|exact trivial|exact rfl
  ·rw [e]; rfl
  ·rw [e]
 intro _; refine ⟨fun g => ?_, fun g => ?_⟩
 ·have g1 := of_decide_eq_true (show decide ((w.length : Int) < 1) = true from g)
  intro _
  exact bad (fun h => by have := h.1.1; omega) _ _ rfl
 have n1 := of_decide_eq_false (show decide ((w.length : Int) < 1) = false from g)
 intro _; refine ⟨fun g => ?_, fun g => ?_⟩
 ·have g1 := of_decide_eq_true (show decide ((w.length : Int) > 64) = true from g)
  intro _
  exact bad (fun h => by have := h.1.2; omega) _ _ rfl
 have n2 := of_decide_eq_false (show decide ((w.length : Int) > 64) = false from g)
 intro _
 refine gap_test _ _ _ ?_
 intro _; refine ⟨fun g => ?_, fun g => ?_⟩
 ·have g : (!decide (0 ≤ gp ∧ gp ≤ 100000)) = true := g
  rw [Bool.not_eq_true'] at g
  have g := of_decide_eq_false g
  intro _
  exact bad (fun h => g h.2.1) _ _ rfl
 have g : (!decide (0 ≤ gp ∧ gp ≤ 100000)) = false := g
 rw [Bool.not_eq_false'] at g
 have hg := of_decide_eq_true g
 intro _
 refine ⟨⟨show 0 ≤ (w.length : Int) by omega, show (w.length : Int) < 9223372036854775808 by omega, show 8 * (w.length : Int).toNat ≤ 140737488355328 by omega⟩, ?_⟩
 intro _
 refine ⟨rfl, ?_⟩
 intro _
 refine loop2 tt_ok [28, 7] [1] 2 (fun k : { k : Nat // k ≤ w.length ∧ ∀ i, i < k → 0 ≤ w.getD i 0 ∧ w.getD i 0 ≤ 1000000 } => [(28, .int .i64 (k : Nat)), (7, .int .i64 (st w gp k))]) (fun k => [(1, .arr [.int .i64] .own (.ints (tz w.length (st w gp) k)))]) (fun k => w.length - k) ⟨0, by omega, fun i h => by omega⟩ ?_
 intro _
 refine ⟨⟨th [] 2, rfl, rfl, rfl, rfl, rfl, rfl, ?_, ?_⟩, ?_⟩
 ·and_intros<;>try first|exact trivial|exact rfl
 ·and_intros<;>try first|exact trivial|exact rfl
 intro ⟨k, hk, hm⟩
 have z : 0 + k = k := Nat.zero_add k
 have b := st_bd hg k hm
 intro _; refine ⟨fun g => ?_, fun g => ?_⟩
 rotate_left
 ·have g := of_decide_eq_false (show decide ((k : Int) < (w.length : Int)) = false from g)
  have : k = w.length := by omega
  subst this
  have e : sr w gp = (tab w.length (st w gp), 0) := by unfold sr; rw [if_pos ⟨⟨by omega, by omega⟩, hg, hm⟩]
  intro _
  refine ⟨[(1, some 1)], .tup [.grw 1 (sr w gp).1.length, .int .i64 (sr w gp).2], ⟨2, 1, [(1, .arr [.int .i64] .own (.ints (sr w gp).1))]⟩, rfl, rfl, rfl, rfl, ?_, ?_, ⟨rfl, rfl⟩⟩
  ·rw [e]
   and_intros<;>try first|exact trivial|exact rfl
   exact tab_len _ _
  ·rw [e]
   and_intros<;>try first|exact trivial|exact rfl
   exact (tz_all _ _).symm
 have g := of_decide_eq_true (show decide ((k : Int) < (w.length : Int)) = true from g)
 intro _; refine ⟨show 0 ≤ (k : Int) ∧ (k : Int) < (w.length : Int) by omega, ?_⟩
 intro _; refine ⟨show 0 + (k : Int).toNat < w.length by omega, ?_⟩
 intro _
 refine tlen_test _ _ _ ?_
 intro _; refine ⟨fun g => ?_, fun g => ?_⟩
 ·have g : (!decide (0 ≤ w.getD (0 + k) 0 ∧ w.getD (0 + k) 0 ≤ 1000000)) = true := g
  rw [Bool.not_eq_true', z] at g
  have g := of_decide_eq_false g
  intro _
  exact bad (fun h => g (h.2.2 k (by omega))) _ _ rfl
 have g3 : (!decide (0 ≤ w.getD (0 + k) 0 ∧ w.getD (0 + k) 0 ≤ 1000000)) = false := g
 rw [Bool.not_eq_false', z] at g3
 have g3 := of_decide_eq_true g3
 intro _; refine ⟨show 0 ≤ (k : Int) ∧ (k : Int) < ((w.length : Int).toNat : Int) by omega, ?_⟩
 intro _; refine ⟨show (k : Int).toNat < (tz w.length (st w gp) k).length by rw [tz_len _ _ _ hk]; omega, ?_⟩
 refine ⟨⟨k + 1, by omega, fun i hi' => ?_⟩, by simp; omega, th [] 2, rfl, rfl, rfl, rfl, rfl, rfl, ?_, ?_⟩
 ·by_cases e : i = k
  ·subst e; exact g3
  ·exact hm i (by omega)
 ·and_intros<;>try first|exact trivial|exact rfl
  ·exact (wrap_nat k (by omega)).symm
  ·show st w gp k + (w.getD k 0 + gp) = IntKind.i64.wrap (st w gp k + IntKind.i64.wrap (w.getD (0 + k) 0 + gp))
   rw [z, wrapS (w.getD k 0 + gp) ⟨by omega, by omega⟩, wrapS _ ⟨by omega, by omega⟩]
 ·and_intros<;>try first|exact trivial|exact rfl
  exact (tz_set _ _ _ (by omega)).symm
def cw (L : Rows) : Nat → Nat
 | 0 => 0
 | m + 1 => max (cw L m) (rowR L m).length
def mxr (f : Rows → Nat → Int) (L : Rows) (k : Nat) : Nat → Int
 | 0 => 0
 | m + 1 => if k < (rowR L m).length then max (mxr f L k m) (f (rowR L m) k) else mxr f L k m
def ac (f : Rows → Nat → Int) (L : Rows) (m j k : Nat) : Int := if k < j then max (mxr f L k m) (f (rowR L m) k) else mxr f L k m
def nrow (L : Rows) (m j k : Nat) : List D := [.n (ac lo L m j k), .n (ac hi L m j k)]
def NA (L : Rows) (m j : Nat) : Rows := (List.range (max (cw L m) j)).map (nrow L m j)
theorem NA_len (L : Rows) (m j : Nat) : (NA L m j).length = max (cw L m) j := by simp [NA]
theorem NA_get (L : Rows) (m j k : Nat) (h : k < max (cw L m) j) : (NA L m j).getD k [] = nrow L m j k := by
 simp only [NA, List.getD_eq_getElem?_getD, List.getElem?_map, List.getElem?_range h]; rfl
theorem mxr_zero (f : Rows → Nat → Int) (L : Rows) (k : Nat) : ∀ m, cw L m ≤ k → mxr f L k m = 0
 | 0, _ => rfl
 | m + 1, h => by
  simp only [cw] at h
  simp only [mxr]
  rw [if_neg (by omega)]
  exact mxr_zero f L k m (by omega)
theorem ext_rows {a b : Rows} (hl : a.length = b.length) (h : ∀ k, k < a.length → a.getD k [] = b.getD k []) : a = b := by
 apply List.ext_getElem hl
 intro i h1 h2
 have := h i h1
 simpa [List.getD_eq_getElem?_getD, h1, h2] using this
theorem ac_zero (f : Rows → Nat → Int) (L : Rows) (m k : Nat) : ac f L m 0 k = mxr f L k m := by unfold ac; rw [if_neg (by omega)]
theorem ac_end (f : Rows → Nat → Int) (L : Rows) (m k : Nat) : ac f L m (rowR L m).length k = mxr f L k (m + 1) := rfl
theorem NA_next (L : Rows) (m : Nat) : NA L (m + 1) 0 = NA L m (rowR L m).length := by
 refine ext_rows (by rw [NA_len, NA_len]; simp [cw]) (fun k hk => ?_)
 rw [NA_len] at hk
 rw [NA_get _ _ _ _ hk, NA_get _ _ _ _ (by simp only [cw] at hk; omega)]
 unfold nrow
 rw [ac_zero, ac_zero, ac_end, ac_end]
theorem NA_set (L : Rows) (m j : Nat) (h : j < cw L m) (v : List D) (hv : v = nrow L m (j + 1) j) : (NA L m j).set j v = NA L m (j + 1) := by
 subst hv
 refine ext_rows (by rw [List.length_set, NA_len, NA_len]; omega) (fun k hk => ?_)
 rw [List.length_set, NA_len] at hk
 rw [NA_get _ _ _ _ (by omega)]
 by_cases e : k = j
 ·subst e
  rw [List.getD_eq_getElem?_getD, List.getElem?_set_self (by simp only [List.length_append, NA_len, List.length_cons, List.length_nil]; omega)]; rfl
 ·have : ((NA L m j).set j (nrow L m (j + 1) j)).getD k [] = (NA L m j).getD k [] := by
   simp only [List.getD_eq_getElem?_getD]
   rw [List.getElem?_set_ne (fun e' => e e'.symm)]
  rw [this, NA_get _ _ _ _ hk]
  unfold nrow ac
  by_cases e2 : k < j
  ·rw [if_pos e2, if_pos e2, if_pos (by omega), if_pos (by omega)]
  ·rw [if_neg e2, if_neg e2, if_neg (by omega), if_neg (by omega)]
theorem NA_app (L : Rows) (m j : Nat) (h : cw L m ≤ j) (w v : List D) (hv : v = nrow L m (j + 1) j) : (NA L m j ++ [w]).set j v = NA L m (j + 1) := by
 subst hv
 refine ext_rows (by rw [List.length_set, List.length_append, NA_len, NA_len]; simp; omega) (fun k hk => ?_)
 rw [List.length_set, List.length_append, NA_len] at hk
 simp only [List.length_cons, List.length_nil] at hk
 rw [NA_get _ _ _ _ (by omega)]
 by_cases e : k = j
 ·subst e
  rw [List.getD_eq_getElem?_getD, List.getElem?_set_self (by simp only [List.length_append, NA_len, List.length_cons, List.length_nil]; omega)]; rfl
 ·have : ((NA L m j ++ [w]).set j (nrow L m (j + 1) j)).getD k [] = (NA L m j).getD k [] := by
   simp only [List.getD_eq_getElem?_getD]
   rw [List.getElem?_set_ne (fun e' => e e'.symm), List.getElem?_append_left (by rw [NA_len]; omega)]
  rw [this, NA_get _ _ _ _ (by omega)]
  unfold nrow ac
  rw [if_pos (show k < j by omega), if_pos (show k < j by omega), if_pos (by omega), if_pos (by omega)]
def NOk (L : Rows) : Prop := L.length ≤ 4000 ∧ (∀ i, i < L.length → (rowR L i).length ≤ 64 ∧ ∀ k, k < (rowR L i).length → Nd (rowR L i) k) ∧ 0 < cw L L.length
open Classical in
noncomputable def nd (L : Rows) : Rows × Int := if NOk L then (NA L L.length 0, 0) else ([], 1)
def NQ (L : Rows) : V → Go.Vm2.H → Prop := fun v h' => v = .tup [.grw 0 (nd L).1.length, .int .i64 (nd L).2] ∧ h' = ⟨1, 0, [(0, .arr [.int .i64, .int .i64] .grow (.recs (nd L).1))]⟩
theorem cw_bd (L : Rows) : ∀ m, (∀ i, i < m → (rowR L i).length ≤ 64) → cw L m ≤ 64
 | 0, _ => by simp [cw]
 | m + 1, h => by
  have := cw_bd L m (fun i hi => h i (by omega))
  have := h m (by omega)
  simp only [cw]; omega
abbrev NI (L : Rows) := { m : Nat // m ≤ L.length ∧ ∀ i, i < m → (rowR L i).length ≤ 64 ∧ ∀ k, k < (rowR L i).length → Nd (rowR L i) k }
abbrev NJ (r : Rows) := { j : Nat // j ≤ r.length ∧ ∀ k, k < j → Nd r k }
set_option maxHeartbeats 4000000 in
theorem needs_ok (L : Rows) (hl : L.length ≤ 9223372036854775807) : SemF Try.prog 12 [.lst KT 23 (.recs L)] ⟨0, 0, []⟩ (NQ L) := by
 refine SemF.ret ?_
 refine enter tt_ok Try.func12 (nt := 67) (cd := body Try.f12) rfl rfl rfl rfl ?_
 have bad : ¬ NOk L → ∀ nx hx, Ret 0 (NQ L) (.tup [.nils, .int .i64 1]) ⟨nx, 0, hx⟩ := fun he nx hx => by
  have e : nd L = ([], 1) := by unfold nd; rw [if_neg he]
  refine ⟨[(0, none)], .tup [.grw 0 0, .int .i64 1], ⟨1, 0, [(0, .arr [.int .i64, .int .i64] .grow (.recs []))]⟩, rfl, rfl, rfl, rfl, ?_, ?_, ?_, ?_⟩
  ·and_intros<;>try first|exact trivial|exact rfl
  ·and_intros<;>try first|exact trivial|exact rfl
  ·rw [e]; rfl
  ·rw [e]
 intro _; refine ⟨fun g => ?_, fun g => ?_⟩
 ·have g := of_decide_eq_true (show decide ((L.length : Int) > 4000) = true from g)
  intro _
  exact bad (fun h => by have := h.1; omega) _ _
 have n1 := of_decide_eq_false (show decide ((L.length : Int) > 4000) = false from g)
 intro _
 refine loop2 tt_ok [14, 4] [0] 1 (fun m : NI L => [(14, .int .i64 (m : Nat)), (4, .grw 0 (NA L m 0).length)]) (fun m => [(0, .arr [.int .i64, .int .i64] .grow (.recs (NA L m 0)))]) (fun m => L.length - m) ⟨0, by omega, fun i h => by omega⟩ ?_
 intro _
 refine ⟨⟨th [(0, none)] 1, rfl, rfl, rfl, rfl, rfl, rfl, ?_, ?_⟩, ?_⟩
 ·and_intros<;>try first|exact trivial|exact rfl
 ·and_intros<;>try first|exact trivial|exact rfl
 intro ⟨m, hm, hmk⟩
 have c0 := cw_bd L m (fun i hi => (hmk i hi).1)
 intro _; refine ⟨fun g => ?_, fun g => ?_⟩
 rotate_left
 ·have g := of_decide_eq_false (show decide ((m : Int) < (L.length : Int)) = false from g)
  have : m = L.length := by omega
  subst this
  intro _; refine ⟨fun g => ?_, fun g => ?_⟩
  ·have g : (((NA L L.length 0).length : Int) == 0) = true := g
   rw [NA_len] at g
   have g : ((max (cw L L.length) 0 : Nat) : Int) = 0 := by simpa using g
   intro _
   exact bad (fun h => by have := h.2.2; omega) _ _
  have g : (((NA L L.length 0).length : Int) == 0) = false := g
  rw [NA_len] at g
  have g : ¬ ((max (cw L L.length) 0 : Nat) : Int) = 0 := by simpa using g
  have e : nd L = (NA L L.length 0, 0) := by unfold nd; rw [if_pos ⟨by omega, hmk, by omega⟩]
  intro _
  refine ⟨[(0, some 0)], .tup [.grw 0 (nd L).1.length, .int .i64 (nd L).2], ⟨1, 0, [(0, .arr [.int .i64, .int .i64] .grow (.recs (nd L).1))]⟩, rfl, rfl, rfl, rfl, ?_, ?_, ⟨rfl, rfl⟩⟩
  ·rw [e]; and_intros<;>try first|exact trivial|exact rfl
  ·rw [e]; and_intros<;>try first|exact trivial|exact rfl
 have gm := of_decide_eq_true (show decide ((m : Int) < (L.length : Int)) = true from g)
 intro _; refine ⟨show 0 ≤ (m : Int) ∧ (m : Int) < (L.length : Int) by omega, ?_⟩
 intro _; refine ⟨fun g => ?_, fun g => ?_⟩
 ·have g := of_decide_eq_true (show decide (((rowR L m).length : Int) > 64) = true from g)
  intro _
  exact bad (fun h => by have := (h.2.1 m (by omega)).1; omega) _ _
 have gr64 := of_decide_eq_false (show decide (((rowR L m).length : Int) > 64) = false from g)
 intro _
 refine loop2 tt_ok [23, 4] [0] 1 (fun j : NJ (rowR L m) => [(23, .int .i64 (j : Nat)), (4, .grw 0 (NA L m j).length)]) (fun j => [(0, .arr [.int .i64, .int .i64] .grow (.recs (NA L m j)))]) (fun j => (rowR L m).length - j) ⟨0, by omega, fun i h => by omega⟩ ?_
 intro _
 refine ⟨⟨th [] 1, rfl, rfl, rfl, rfl, rfl, rfl, ?_, ?_⟩, ?_⟩
 ·and_intros<;>try first|exact trivial|exact rfl
 ·and_intros<;>try first|exact trivial|exact rfl
 intro ⟨j, hj, hjk⟩
 intro _; refine ⟨fun g => ?_, fun g => ?_⟩
 rotate_left
 ·have g := of_decide_eq_false (show decide ((j : Int) < ((rowR L m).length : Int)) = false from g)
  have : j = (rowR L m).length := by omega
  subst this
  refine ⟨⟨m + 1, by omega, fun i hi' => ?_⟩, by simp; omega, th [] 1, rfl, rfl, rfl, rfl, rfl, rfl, ?_, ?_⟩
  ·by_cases e : i = m
   ·subst e; exact ⟨by omega, hjk⟩
   ·exact hmk i (by omega)
  ·and_intros<;>try first|exact trivial|exact rfl
   ·exact (wrap_nat m (by omega)).symm
   ·exact congrArg List.length (NA_next L m)
  ·and_intros<;>try first|exact trivial|exact rfl
   exact NA_next L m
 have gj := of_decide_eq_true (show decide ((j : Int) < ((rowR L m).length : Int)) = true from g)
 have hjl : j < (rowR L m).length := by omega
 intro _; refine ⟨show 0 ≤ (j : Int) ∧ (j : Int) < ((rowR L m).length : Int) by omega, ?_⟩
 intro _
 refine call_pure [] (need_ok (lo (rowR L m) j) (hi (rowR L m) j)) rfl rfl rfl ?_ ?_ ?_
 ·and_intros<;>try first|exact trivial|exact rfl
 ·and_intros<;>try first|exact trivial|exact rfl
 intro v hv _
 subst hv
 intro _; refine ⟨fun g => ?_, fun g => ?_⟩
 ·have g : (!decide (ND (lo (rowR L m) j) (hi (rowR L m) j))) = true := g
  rw [Bool.not_eq_true'] at g
  have g := of_decide_eq_false g
  intro _
  exact bad (fun h => g ((h.2.1 m (by omega)).2 j hjl)) _ _
 have g : (!decide (ND (lo (rowR L m) j) (hi (rowR L m) j))) = false := g
 rw [Bool.not_eq_false'] at g
 have gN := of_decide_eq_true g
 have nx : ∀ i, i < j + 1 → Nd (rowR L m) i := nd_succ hjk gN
 intro _; refine ⟨fun g => ?_, fun g => ?_⟩
 ·have g : ((j : Int) == ((NA L m j).length : Int)) = true := g
  rw [NA_len] at g
  have g : (j : Int) = ((max (cw L m) j : Nat) : Int) := by simpa using g
  have hcj : cw L m ≤ j := by omega
  intro _
  refine ⟨rfl, ?_⟩
  intro _; refine ⟨fun g3 => by simp at g3, fun _ => ?_⟩
  refine ⟨⟨rfl, show (NA L m j).length + 1 ≤ 4611686018427387904 by rw [NA_len]; omega, show ((NA L m j).length + 1) * 16 ≤ 140737488355328 by rw [NA_len]; omega⟩, ?_⟩
  intro _; refine ⟨show 0 ≤ (j : Int) ∧ (j : Int) < (((NA L m j).length + 1 : Nat) : Int) by rw [NA_len]; omega, ?_⟩
  have hnl : (NA L m j ++ [[D.n (lo (rowR L m) j), D.n (hi (rowR L m) j)]]).length = j + 1 := by rw [List.length_append, NA_len]; simp; omega
  have hng : (NA L m j ++ [[D.n (lo (rowR L m) j), D.n (hi (rowR L m) j)]]).getD j [] = [D.n (lo (rowR L m) j), D.n (hi (rowR L m) j)] := by
   rw [List.getD_eq_getElem?_getD, List.getElem?_append_right (by rw [NA_len]; omega), NA_len]
   have : j - max (cw L m) j = 0 := by omega
   rw [this]; rfl
  have e0 : lo (NA L m j ++ [[D.n (lo (rowR L m) j), D.n (hi (rowR L m) j)]]) j = lo (rowR L m) j := (congrArg (fun r : List D => (r.getD 0 (D.n 0)).int) hng).trans rfl
  have e1 : hi (NA L m j ++ [[D.n (lo (rowR L m) j), D.n (hi (rowR L m) j)]]) j = hi (rowR L m) j := (congrArg (fun r : List D => (r.getD 1 (D.n 0)).int) hng).trans rfl
  intro _; refine ⟨show (j : Int).toNat < (NA L m j ++ [[D.n (lo (rowR L m) j), D.n (hi (rowR L m) j)]]).length by omega, ?_⟩
  intro _
  refine Or.inl ?_
  intro _
  refine call_pure [(0, some 4)] (grS_ok (lo (NA L m j ++ [[D.n (lo (rowR L m) j), D.n (hi (rowR L m) j)]]) j) [lo (rowR L m) j] (by simp)) rfl rfl rfl ?_ ?_ ?_
  ·and_intros<;>try first|exact trivial|exact rfl
  ·and_intros<;>try first|exact trivial|exact rfl
  intro v hv _
  subst hv
  intro _; refine ⟨show 0 ≤ (j : Int) ∧ (j : Int) < (((NA L m j).length + 1 : Nat) : Int) by rw [NA_len]; omega, ?_⟩
  intro _; refine ⟨show (j : Int).toNat < (NA L m j ++ [[D.n (lo (rowR L m) j), D.n (hi (rowR L m) j)]]).length by omega, ?_⟩
  intro _
  refine Or.inl ?_
  intro _
  refine call_pure [(0, some 5)] (grS_ok (hi (NA L m j ++ [[D.n (lo (rowR L m) j), D.n (hi (rowR L m) j)]]) j) [hi (rowR L m) j] (by simp)) rfl rfl rfl ?_ ?_ ?_
  ·and_intros<;>try first|exact trivial|exact rfl
  ·and_intros<;>try first|exact trivial|exact rfl
  intro v hv _
  subst hv
  intro _; refine ⟨show 0 ≤ (j : Int) ∧ (j : Int) < (((NA L m j).length + 1 : Nat) : Int) by rw [NA_len]; omega, ?_⟩
  intro _; refine ⟨show (j : Int).toNat < (NA L m j ++ [[D.n (lo (rowR L m) j), D.n (hi (rowR L m) j)]]).length by omega, ?_⟩
  intro _; refine ⟨by kernel_rfl, ?_⟩
  have e2 : [D.n (gr (lo (NA L m j ++ [[D.n (lo (rowR L m) j), D.n (hi (rowR L m) j)]]) j) [lo (rowR L m) j] 1), D.n (gr (hi (NA L m j ++ [[D.n (lo (rowR L m) j), D.n (hi (rowR L m) j)]]) j) [hi (rowR L m) j] 1)] = nrow L m (j + 1) j := by
   unfold nrow ac
   rw [if_pos (by omega), if_pos (by omega), mxr_zero lo L j m hcj, mxr_zero hi L j m hcj, e0, e1]
   have a1 := gN.1
   have a2 := gN.2.1
   have b1 : gr (lo (rowR L m) j) [lo (rowR L m) j] 1 = max 0 (lo (rowR L m) j) := by simp [gr]; omega
   have b2 : gr (hi (rowR L m) j) [hi (rowR L m) j] 1 = max 0 (hi (rowR L m) j) := by simp [gr]; omega
   rw [b1, b2]
  refine ⟨⟨j + 1, by omega, nx⟩, by simp; omega, th [(0, some 3)] 1, rfl, rfl, rfl, rfl, rfl, rfl, ?_, ?_⟩
  ·and_intros<;>try first|exact trivial|exact rfl
   ·exact (wrap_nat j (by omega)).symm
   ·show (NA L m (j + 1)).length = (NA L m j).length + 1
    rw [NA_len, NA_len]; omega
  ·and_intros<;>try first|exact trivial|exact rfl
   exact (NA_app L m j hcj _ _ e2).symm
 have g : ((j : Int) == ((NA L m j).length : Int)) = false := g
 rw [NA_len] at g
 have g : ¬ (j : Int) = ((max (cw L m) j : Nat) : Int) := by simpa using g
 have hcj : j < cw L m := by omega
 have hng := NA_get L m j j (by omega)
 have e0 : lo (NA L m j) j = mxr lo L j m := by
  have : lo (NA L m j) j = ac lo L m j j := congrArg (fun r : List D => (r.getD 0 (D.n 0)).int) hng
  rw [this]; unfold ac; rw [if_neg (by omega)]
 have e1 : hi (NA L m j) j = mxr hi L j m := by
  have : hi (NA L m j) j = ac hi L m j j := congrArg (fun r : List D => (r.getD 1 (D.n 0)).int) hng
  rw [this]; unfold ac; rw [if_neg (by omega)]
 intro _; refine ⟨show 0 ≤ (j : Int) ∧ (j : Int) < ((NA L m j).length : Int) by rw [NA_len]; omega, ?_⟩
 intro _; refine ⟨show (j : Int).toNat < (NA L m j).length by rw [NA_len]; omega, ?_⟩
 intro _
 refine Or.inl ?_
 intro _
 refine call_pure [(0, some 2)] (grS_ok (lo (NA L m j) j) [lo (rowR L m) j] (by simp)) rfl rfl rfl ?_ ?_ ?_
 ·and_intros<;>try first|exact trivial|exact rfl
 ·and_intros<;>try first|exact trivial|exact rfl
 intro v hv _
 subst hv
 intro _; refine ⟨show 0 ≤ (j : Int) ∧ (j : Int) < ((NA L m j).length : Int) by rw [NA_len]; omega, ?_⟩
 intro _; refine ⟨show (j : Int).toNat < (NA L m j).length by rw [NA_len]; omega, ?_⟩
 intro _
 refine Or.inl ?_
 intro _
 refine call_pure [(0, some 3)] (grS_ok (hi (NA L m j) j) [hi (rowR L m) j] (by simp)) rfl rfl rfl ?_ ?_ ?_
 ·and_intros<;>try first|exact trivial|exact rfl
 ·and_intros<;>try first|exact trivial|exact rfl
 intro v hv _
 subst hv
 intro _; refine ⟨show 0 ≤ (j : Int) ∧ (j : Int) < ((NA L m j).length : Int) by rw [NA_len]; omega, ?_⟩
 intro _; refine ⟨show (j : Int).toNat < (NA L m j).length by rw [NA_len]; omega, ?_⟩
 intro _; refine ⟨by kernel_rfl, ?_⟩
 have e2 : [D.n (gr (lo (NA L m j) j) [lo (rowR L m) j] 1), D.n (gr (hi (NA L m j) j) [hi (rowR L m) j] 1)] = nrow L m (j + 1) j := by
  unfold nrow ac
  rw [if_pos (by omega), if_pos (by omega), e0, e1]
  rfl
 refine ⟨⟨j + 1, by omega, nx⟩, by simp; omega, th [] 1, rfl, rfl, rfl, rfl, rfl, rfl, ?_, ?_⟩
 ·and_intros<;>try first|exact trivial|exact rfl
  ·exact (wrap_nat j (by omega)).symm
  ·show (NA L m (j + 1)).length = (NA L m j).length
   rw [NA_len, NA_len]; omega
 ·and_intros<;>try first|exact trivial|exact rfl
  exact (NA_set L m j hcj _ e2).symm
abbrev KB : List CK := [.int .i64, .int .i64, .int .i64, .int .i64, .int .i64, .bool, .list 80]
def bx (x y w h : Int) : List D := [.n 0, .n x, .n y, .n w, .n h, .b false, .seq (.recs [])]
def brow (s w : List Int) (y h : Int) (n : Nat) : Rows := (List.range n).map fun i => bx (s.getD i 0) y (w.getD i 0) h
theorem brow_len (s w : List Int) (y h : Int) (n : Nat) : (brow s w y h n).length = n := by simp [brow]
theorem brow_next (s w : List Int) (y h : Int) (n : Nat) : brow s w y h (n + 1) = brow s w y h n ++ [bx (s.getD n 0) y (w.getD n 0) h] := by simp [brow, List.range_succ]
theorem cells_ok (s w : List Int) (y h : Int) (n : Nat) (hs : n ≤ s.length) (hw : n ≤ w.length) (hn : n ≤ 64) : SemF Try.prog 29 [.agg [.int .i64 0, .int .i64 0, .int .i64 y, .int .i64 0, .int .i64 h, .bool false, .nils], .slc 0 1 0 s.length, .slc 1 1 0 w.length, .int .i64 n] ⟨3, 3, [(0, .arr [.int .i64] .rd (.ints s)), (1, .arr [.int .i64] .rd (.ints w)), (2, .tok)]⟩ (fun v _ => v = .lst KT 50 (.recs (brow s w y h n))) := by
 refine SemF.frz ?_
 refine enter tt_ok Try.func29 (nt := 35) (cd := body Try.f29) rfl rfl rfl rfl ?_
 intro _
 refine loop2 tt_ok [12, 9] [4] 5 (fun k : Fin (n + 1) => [(12, .int .i64 (k : Nat)), (9, .grw 4 (k : Nat))]) (fun k => [(4, .tarr KT 50 .grow (.recs (brow s w y h k)))]) (fun k => n - k) ⟨0, by omega⟩ ?_
 intro _
 refine ⟨⟨th [(4, none)] 5, rfl, rfl, rfl, rfl, rfl, rfl, ?_, ?_⟩, ?_⟩
 ·and_intros<;>try first|exact trivial|exact rfl
 ·and_intros<;>try first|exact trivial|exact rfl
 intro ⟨k, hk⟩
 have z : 0 + k = k := Nat.zero_add k
 intro _; refine ⟨fun g => ?_, fun g => ?_⟩
 rotate_left
 ·have g := of_decide_eq_false (show decide ((k : Int) < (n : Int)) = false from g)
  have : k = n := by omega
  subst this
  intro _
  exact .inl ⟨4, k, KT, 50, .recs (brow s w y h k), .lst KT 50 (.recs (brow s w y h k)), _, (show 4 < 5 by omega), ⟨rfl, (brow_len s w y h k).symm, rfl, rfl⟩, ⟨rfl, rfl, rfl, rfl⟩, rfl⟩
 have g := of_decide_eq_true (show decide ((k : Int) < (n : Int)) = true from g)
 intro _; refine ⟨show 0 ≤ (k : Int) ∧ (k : Int) < (s.length : Int) by omega, ?_⟩
 intro _; refine ⟨show 0 + (k : Int).toNat < s.length by omega, ?_⟩
 intro _; refine ⟨show 0 ≤ (k : Int) ∧ (k : Int) < (w.length : Int) by omega, ?_⟩
 intro _; refine ⟨show 0 + (k : Int).toNat < w.length by omega, ?_⟩
 intro _
 intro _; refine Or.inr ?_
 intro _; refine ⟨rfl, rfl, ?_⟩
 intro _; refine ⟨fun g3 => by simp at g3, fun _ => ?_⟩
 refine ⟨⟨rfl, (brow_len s w y h k).symm, show k + 1 ≤ 4611686018427387904 by omega, show (k + 1) * 72 ≤ 140737488355328 by omega⟩, ?_⟩
 intro _; refine ⟨by kernel_rfl, ?_⟩
 refine ⟨⟨k + 1, by omega⟩, by simp; omega, th [(4, some 6)] 5, rfl, rfl, rfl, rfl, rfl, rfl, ?_, ?_⟩
 ·and_intros<;>try first|exact trivial|exact rfl
  exact (wrap_nat k (by omega)).symm
 ·and_intros<;>try first|exact trivial|exact rfl
  show brow s w y h (k + 1) = brow s w y h k ++ [bx (s.getD (0 + k) 0) y (w.getD (0 + k) 0) h]
  rw [z, brow_next]
def rh (H : Rows) (i : Nat) : Int := gr 0 (rowI H i) (rowI H i).length
def ry (H : Rows) (g : Int) : Nat → Int
 | 0 => 0
 | i + 1 => ry H g i + (if 0 < i then g else 0) + rh H i
def rtop (H : Rows) (g : Int) (i : Nat) : Int := ry H g i + (if 0 < i then g else 0)
def POk (w : List Int) (H : Rows) (g : Int) : Prop := SOk w g ∧ H.length ≤ 4000 ∧ ∀ i, i < H.length → (rowI H i).length ≤ w.length ∧ ∀ k, k < (rowI H i).length → 0 ≤ (rowI H i).getD k 0 ∧ (rowI H i).getD k 0 ≤ 1000000
def prow (w : List Int) (H : Rows) (g : Int) (i : Nat) : Rows := brow (tab w.length (st w g)) w (rtop H g i) (rh H i) (rowI H i).length
def PR (w : List Int) (H : Rows) (g : Int) (n : Nat) : Rows := (List.range n).map fun i => [.seq (.recs (prow w H g i))]
open Classical in
noncomputable def pl (w : List Int) (H : Rows) (g : Int) : Rows × Int × Int := if POk w H g then (if ry H g H.length > 1000000000 then ([], 0, 3) else (PR w H g H.length, ry H g H.length, 0)) else ([], 0, 1)
theorem gr_bd {l : List Int} : ∀ k, (∀ i, i < k → 0 ≤ l.getD i 0 ∧ l.getD i 0 ≤ 1000000) → 0 ≤ gr 0 l k ∧ gr 0 l k ≤ 1000000
 | 0, _ => by simp [gr]
 | k + 1, h => by
  have a := gr_bd k (fun i hi => h i (by omega))
  have b := h k (by omega)
  simp only [gr]; omega
theorem PR_len (w : List Int) (H : Rows) (g : Int) (n : Nat) : (PR w H g n).length = n := by simp [PR]
theorem PR_next (w : List Int) (H : Rows) (g : Int) (n : Nat) : PR w H g (n + 1) = PR w H g n ++ [[.seq (.recs (prow w H g n))]] := by simp [PR, List.range_succ]
theorem PR_row (w : List Int) (H : Rows) (g : Int) (n i : Nat) (h : i < n) : rowR (PR w H g n) i = prow w H g i := by
 unfold rowR PR
 simp only [List.getD_eq_getElem?_getD, List.getElem?_map, List.getElem?_range h]; rfl
theorem ry_bd {H : Rows} {g : Int} (hg : 0 ≤ g ∧ g ≤ 100000) (hh : ∀ i, i < H.length → ∀ k, k < (rowI H i).length → 0 ≤ (rowI H i).getD k 0 ∧ (rowI H i).getD k 0 ≤ 1000000) : ∀ i, i ≤ H.length → 0 ≤ ry H g i ∧ ry H g i ≤ 1100000 * i
 | 0, _ => by simp [ry]
 | i + 1, hi => by
  have a := ry_bd hg hh i (by omega)
  have b := gr_bd (l := rowI H i) _ (hh i (by omega))
  have b : 0 ≤ rh H i ∧ rh H i ≤ 1000000 := b
  simp only [ry]
  split <;> omega
abbrev PI (w : List Int) (H : Rows) := { i : Nat // i ≤ H.length ∧ ∀ j, j < i → (rowI H j).length ≤ w.length ∧ ∀ k, k < (rowI H j).length → 0 ≤ (rowI H j).getD k 0 ∧ (rowI H j).getD k 0 ≤ 1000000 }
abbrev PJ (r : List Int) := { j : Nat // j ≤ r.length ∧ ∀ k, k < j → 0 ≤ r.getD k 0 ∧ r.getD k 0 ≤ 1000000 }
def PQ (w : List Int) (H : Rows) (g : Int) : V → Go.Vm2.H → Prop := fun v _ => v = .tup [.lst KT 47 (.recs (pl w H g).1), .int .i64 (pl w H g).2.1, .int .i64 (pl w H g).2.2]
set_option maxHeartbeats 4000000 in
theorem place_ok (w : List Int) (H : Rows) (gp : Int) (hl : w.length ≤ 9223372036854775807) (hH : H.length ≤ 9223372036854775807) (hw : ∀ i, i < w.length → -9223372036854775808 ≤ w.getD i 0 ∧ w.getD i 0 ≤ 9223372036854775807) : SemF Try.prog 18 [.slc 0 1 0 w.length, .lst KT 24 (.recs H), .int .i64 gp] ⟨2, 2, [(0, .arr [.int .i64] .rd (.ints w)), (1, .tok)]⟩ (PQ w H gp) := by
 refine SemF.ret ?_
 refine SemF.frz ?_
 refine enter tt_ok Try.func18 (nt := 91) (cd := body Try.f18) rfl rfl rfl rfl ?_
 intro _
 refine call_new [(0, some 0)] (starts_ok w gp hl hw) rfl rfl rfl rfl ?_ ?_ ?_
 ·and_intros<;>try first|exact trivial|exact rfl
 ·and_intros<;>try first|exact trivial|exact rfl
 intro v h' hv
 obtain ⟨rfl, rfl⟩ := hv
 refine ⟨[(2, some 1)], 3, [(2, .arr [.int .i64] .own (.ints (sr w gp).1))], .tup [.grw 2 (sr w gp).1.length, .int .i64 (sr w gp).2], rfl, rfl, rfl, rfl, rfl, ?_, ?_, ?_⟩
 ·and_intros<;>try first|exact trivial|exact rfl
 ·and_intros<;>try first|exact trivial|exact rfl
 have bad : ∀ e, pl w H gp = ([], 0, e) → ∀ nx hx, Nat.ble 2 nx = true → Ret 2 (PQ w H gp) (.tup [.nils, .int .i64 0, .int .i64 e]) ⟨nx, 2, hx⟩ := fun e he nx hx hn => by
  refine ⟨[], .tup [.lst KT 47 (.recs []), .int .i64 0, .int .i64 e], ⟨2, 2, []⟩, rfl, rfl, rfl, rfl, ?_, trivial, ?_⟩
  ·and_intros<;>try first|exact trivial|exact rfl
  ·show _ = _
   rw [he]
 have bad1 : ¬ POk w H gp → ∀ nx hx, Nat.ble 2 nx = true → Ret 2 (PQ w H gp) (.tup [.nils, .int .i64 0, .int .i64 1]) ⟨nx, 2, hx⟩ := fun he => bad 1 (by unfold pl; rw [if_neg he])
 intro _; refine ⟨fun g => ?_, fun g => ?_⟩
 ·have g : ((sr w gp).2 != 0) = true := g
  intro _
  refine .inr (bad1 (fun h => ?_) _ _ rfl)
  have : sr w gp = (tab w.length (st w gp), 0) := by unfold sr; rw [if_pos h.1]
  rw [this] at g; simp at g
 have g : ((sr w gp).2 != 0) = false := g
 have hS : SOk w gp := by
  by_cases e : SOk w gp
  ·exact e
  ·have : sr w gp = ([], 1) := by unfold sr; rw [if_neg e]
   rw [this] at g; simp at g
 have eS : sr w gp = (tab w.length (st w gp), 0) := by unfold sr; rw [if_pos hS]
 rw [eS]
 intro _; refine ⟨fun g => ?_, fun g => ?_⟩
 ·have g := of_decide_eq_true (show decide ((H.length : Int) > 4000) = true from g)
  intro _
  exact .inr (bad1 (fun h => by have := h.2.1; omega) _ _ rfl)
 have n1 := of_decide_eq_false (show decide ((H.length : Int) > 4000) = false from g)
 intro _
 refine loop2 tt_ok [35] [] 3 (fun i : PI w H => [(35, .int .i64 (i : Nat))]) (fun _ => []) (fun i => H.length - i) ⟨0, by omega, fun i h => by omega⟩ ?_
 intro _
 refine ⟨⟨th [] 3, rfl, rfl, rfl, rfl, rfl, rfl, ?_, ?_⟩, ?_⟩
 ·and_intros<;>try first|exact trivial|exact rfl
 ·and_intros<;>try first|exact trivial|exact rfl
 intro ⟨i, hi, him⟩
 intro _; refine ⟨fun g => ?_, fun g => ?_⟩
 ·have gi := of_decide_eq_true (show decide ((i : Int) < (H.length : Int)) = true from g)
  intro _; refine ⟨show 0 ≤ (i : Int) ∧ (i : Int) < (H.length : Int) by omega, ?_⟩
  intro _; refine ⟨fun g => ?_, fun g => ?_⟩
  ·have g := of_decide_eq_true (show decide (((rowI H i).length : Int) > (w.length : Int)) = true from g)
   intro _
   exact .inr (bad1 (fun h => by have := (h.2.2 i (by omega)).1; omega) _ _ rfl)
  have g1 := of_decide_eq_false (show decide (((rowI H i).length : Int) > (w.length : Int)) = false from g)
  intro _
  refine loop2 tt_ok [46] [] 3 (fun j : PJ (rowI H i) => [(46, .int .i64 (j : Nat))]) (fun _ => []) (fun j => (rowI H i).length - j) ⟨0, by omega, fun i h => by omega⟩ ?_
  intro _
  refine ⟨⟨th [] 3, rfl, rfl, rfl, rfl, rfl, rfl, ?_, ?_⟩, ?_⟩
  ·and_intros<;>try first|exact trivial|exact rfl
  ·and_intros<;>try first|exact trivial|exact rfl
  intro ⟨j, hj, hjm⟩
  intro _; refine ⟨fun g => ?_, fun g => ?_⟩
  ·have gj := of_decide_eq_true (show decide ((j : Int) < ((rowI H i).length : Int)) = true from g)
   intro _; refine ⟨show 0 ≤ (j : Int) ∧ (j : Int) < ((rowI H i).length : Int) by omega, ?_⟩
   intro _
   refine len_test _ _ _ ?_
   intro _; refine ⟨fun g => ?_, fun g => ?_⟩
   ·have g : (!decide (0 ≤ (rowI H i).getD j 0 ∧ (rowI H i).getD j 0 ≤ 1000000)) = true := g
    rw [Bool.not_eq_true'] at g
    have g := of_decide_eq_false g
    intro _
    exact .inr (bad1 (fun h => g ((h.2.2 i (by omega)).2 j (by omega))) _ _ rfl)
   have g : (!decide (0 ≤ (rowI H i).getD j 0 ∧ (rowI H i).getD j 0 ≤ 1000000)) = false := g
   rw [Bool.not_eq_false'] at g
   have g := of_decide_eq_true g
   refine ⟨⟨j + 1, by omega, fun k hk => ?_⟩, by simp; omega, th [] 3, rfl, rfl, rfl, rfl, rfl, rfl, ?_, ?_⟩
   ·by_cases e : k = j
    ·subst e; exact g
    ·exact hjm k (by omega)
   ·and_intros<;>try first|exact trivial|exact rfl
    exact (wrap_nat j (by omega)).symm
   ·and_intros<;>try first|exact trivial|exact rfl
  have g := of_decide_eq_false (show decide ((j : Int) < ((rowI H i).length : Int)) = false from g)
  have : j = (rowI H i).length := by omega
  subst this
  refine ⟨⟨i + 1, by omega, fun k hk => ?_⟩, by simp; omega, th [] 3, rfl, rfl, rfl, rfl, rfl, rfl, ?_, ?_⟩
  ·by_cases e : k = i
   ·subst e; exact ⟨by omega, hjm⟩
   ·exact him k (by omega)
  ·and_intros<;>try first|exact trivial|exact rfl
   exact (wrap_nat i (by omega)).symm
  ·and_intros<;>try first|exact trivial|exact rfl
 have g := of_decide_eq_false (show decide ((i : Int) < (H.length : Int)) = false from g)
 have : i = H.length := by omega
 subst this
 have hP : POk w H gp := ⟨hS, by omega, him⟩
 have hcel := fun i (h : i < H.length) => (him i h).2
 intro _
 refine loop2 tt_ok [57, 15, 16] [3] 4 (fun i : Fin (H.length + 1) => [(57, .int .i64 (i : Nat)), (15, .grw 3 (i : Nat)), (16, .int .i64 (ry H gp i))]) (fun i => [(3, .tarr KT 47 .grow (.recs (PR w H gp i)))]) (fun i => H.length - i) ⟨0, by omega⟩ ?_
 intro _
 refine ⟨⟨th [(3, none)] 4, rfl, rfl, rfl, rfl, rfl, rfl, ?_, ?_⟩, ?_⟩
 ·and_intros<;>try first|exact trivial|exact rfl
 ·and_intros<;>try first|exact trivial|exact rfl
 intro ⟨i, hi⟩
 have b0 := ry_bd hS.2.1 hcel i (by omega)
 intro _; refine ⟨fun g => ?_, fun g => ?_⟩
 rotate_left
 ·have g := of_decide_eq_false (show decide ((i : Int) < (H.length : Int)) = false from g)
  have : i = H.length := by omega
  subst this
  intro _; refine ⟨fun g => ?_, fun g => ?_⟩
  ·have g := of_decide_eq_true (show decide (ry H gp H.length > 1000000000) = true from g)
   intro _
   exact .inr (bad 3 (by unfold pl; rw [if_pos hP, if_pos g]) _ _ rfl)
  have g := of_decide_eq_false (show decide (ry H gp H.length > 1000000000) = false from g)
  have e : pl w H gp = (PR w H gp H.length, ry H gp H.length, 0) := by unfold pl; rw [if_pos hP, if_neg g]
  intro _
  refine .inl ⟨3, H.length, KT, 47, .recs (PR w H gp H.length), .tup [.lst KT 47 (.recs (PR w H gp H.length)), .int .i64 (ry H gp H.length), .int .i64 0], _, (show 3 < 4 by omega), ⟨rfl, (PR_len w H gp H.length).symm, rfl, rfl⟩, ⟨⟨rfl, rfl, rfl, rfl⟩, rfl, rfl, trivial⟩, ⟨[], .tup [.lst KT 47 (.recs (PR w H gp H.length)), .int .i64 (ry H gp H.length), .int .i64 0], ⟨2, 2, []⟩, rfl, rfl, rfl, rfl, ⟨⟨rfl, rfl, rfl⟩, rfl, rfl, trivial⟩, trivial, by show _ = _; rw [e]⟩⟩
 have gi := of_decide_eq_true (show decide ((i : Int) < (H.length : Int)) = true from g)
 have b1 := gr_bd (l := rowI H i) _ (hcel i (by omega))
 have b1 : 0 ≤ rh H i ∧ rh H i ≤ 1000000 := b1
 have hg2 := hS.2.1
 intro _; refine ⟨show 0 ≤ (i : Int) ∧ (i : Int) < (H.length : Int) by omega, ?_⟩
 have eN : IntKind.i64.wrap (rtop H gp i + rh H i) = ry H gp (i + 1) := by
  have e : rtop H gp i + rh H i = ry H gp (i + 1) := by simp only [ry, rtop]
  rw [e, wrapS _ ?_]
  have := ry_bd hS.2.1 hcel (i + 1) (by omega)
  constructor <;> omega
 intro _; refine ⟨fun g => ?_, fun g => ?_⟩
 ·have gz := of_decide_eq_true (show decide ((i : Int) > 0) = true from g)
  have eT : IntKind.i64.wrap (ry H gp i + gp) = rtop H gp i := by
   rw [wrapS _ ⟨by omega, by omega⟩]
   unfold rtop; rw [if_pos (by omega)]
  intro _
  refine call_pure [] (grL_ok 0 (rowI H i) (by have := (hP.2.2 i (by omega)).1; omega)) rfl rfl rfl ?_ ?_ ?_
  ·and_intros<;>try first|exact trivial|exact rfl
  ·and_intros<;>try first|exact trivial|exact rfl
  intro v hv _
  subst hv
  intro _
  rw [eT]
  refine call_new [(0, some 2), (1, some 0), (2, some 1)] (cells_ok (tab w.length (st w gp)) w (rtop H gp i) (rh H i) (rowI H i).length (by rw [tab_len]; exact (hP.2.2 i (by omega)).1) (hP.2.2 i (by omega)).1 (by have := (hP.2.2 i (by omega)).1; have := hS.1; omega)) rfl rfl rfl rfl ?_ ?_ ?_
  ·and_intros<;>try first|exact trivial|exact rfl
  ·and_intros<;>try first|exact trivial|exact rfl
  intro v h' hv
  subst hv
  refine ⟨[], 5, [], .lst KT 50 (.recs (prow w H gp i)), rfl, rfl, rfl, rfl, rfl, ?_, ?_, ?_⟩
  ·and_intros<;>try first|exact trivial|exact rfl
  ·and_intros<;>try first|exact trivial|exact rfl
  intro _; refine ⟨rfl, rfl, ?_⟩
  intro _; refine ⟨rfl, rfl, ?_⟩
  intro _; refine ⟨fun g3 => by simp at g3, fun _ => ?_⟩
  refine ⟨⟨rfl, (PR_len w H gp i).symm, show i + 1 ≤ 4611686018427387904 by omega, show (i + 1) * 24 ≤ 140737488355328 by omega⟩, ?_⟩
  refine ⟨⟨i + 1, by omega⟩, by simp; omega, th [(3, some 6)] 4, rfl, rfl, rfl, rfl, rfl, rfl, ?_, ?_⟩
  ·and_intros<;>try first|exact trivial|exact rfl
   ·exact (wrap_nat i (by omega)).symm
   ·exact eN.symm
  ·and_intros<;>try first|exact trivial|exact rfl
   exact PR_next w H gp i
 ·have gz := of_decide_eq_false (show decide ((i : Int) > 0) = false from g)
  have eT : ry H gp i = rtop H gp i := by unfold rtop; rw [if_neg (by omega)]; omega
  intro _
  refine call_pure [] (grL_ok 0 (rowI H i) (by have := (hP.2.2 i (by omega)).1; omega)) rfl rfl rfl ?_ ?_ ?_
  ·and_intros<;>try first|exact trivial|exact rfl
  ·and_intros<;>try first|exact trivial|exact rfl
  intro v hv _
  subst hv
  intro _
  rw [eT]
  refine call_new [(0, some 2), (1, some 0), (2, some 1)] (cells_ok (tab w.length (st w gp)) w (rtop H gp i) (rh H i) (rowI H i).length (by rw [tab_len]; exact (hP.2.2 i (by omega)).1) (hP.2.2 i (by omega)).1 (by have := (hP.2.2 i (by omega)).1; have := hS.1; omega)) rfl rfl rfl rfl ?_ ?_ ?_
  ·and_intros<;>try first|exact trivial|exact rfl
  ·and_intros<;>try first|exact trivial|exact rfl
  intro v h' hv
  subst hv
  refine ⟨[], 5, [], .lst KT 50 (.recs (prow w H gp i)), rfl, rfl, rfl, rfl, rfl, ?_, ?_, ?_⟩
  ·and_intros<;>try first|exact trivial|exact rfl
  ·and_intros<;>try first|exact trivial|exact rfl
  intro _; refine ⟨rfl, rfl, ?_⟩
  intro _; refine ⟨rfl, rfl, ?_⟩
  intro _; refine ⟨fun g3 => by simp at g3, fun _ => ?_⟩
  refine ⟨⟨rfl, (PR_len w H gp i).symm, show i + 1 ≤ 4611686018427387904 by omega, show (i + 1) * 24 ≤ 140737488355328 by omega⟩, ?_⟩
  refine ⟨⟨i + 1, by omega⟩, by simp; omega, th [(3, some 6)] 4, rfl, rfl, rfl, rfl, rfl, rfl, ?_, ?_⟩
  ·and_intros<;>try first|exact trivial|exact rfl
   ·exact (wrap_nat i (by omega)).symm
   ·exact eN.symm
  ·and_intros<;>try first|exact trivial|exact rfl
   exact PR_next w H gp i
abbrev bxV (a b c d e : Int) (f : Bool) (l : Rows) : V := .agg [.int .i64 a, .int .i64 b, .int .i64 c, .int .i64 d, .int .i64 e, .bool f, .lst KT 80 (.recs l)]
def Pln (a b c d e a' b' c' d' e' : Int) (f f' : Bool) (l l' : Rows) : Prop := a = a' ∧ b = b' ∧ c = c' ∧ d = d' ∧ e = e' ∧ f = f' ∧ l.length = 0 ∧ l'.length = 0
open Classical in
theorem plain_ok (a b c d e a' b' c' d' e' : Int) (f f' : Bool) (l l' : Rows) : SemF Try.prog 31 [bxV a b c d e f l, bxV a' b' c' d' e' f' l'] ⟨0, 0, []⟩ (fun v _ => v = .test (decide (Pln a b c d e a' b' c' d' e' f f' l l')) ∧ nameless v = true) := by
 refine SemF.test ?_
 refine enter tt_ok Try.func31 (nt := 57) (cd := body Try.f31) rfl rfl rfl rfl ?_
 generalize hP : Pln a b c d e a' b' c' d' e' f f' l l' = P
 have no : ¬ P → ∃ b, (V.test false = .bool b ∨ V.test false = .test b) ∧ V.test b = .test (decide P) ∧ nameless (V.test b) = true := fun h => ⟨false, .inr rfl, by rw [decide_eq_false h], rfl⟩
 have no' : ¬ P → ∃ b, (V.bool false = .bool b ∨ V.bool false = .test b) ∧ V.test b = .test (decide P) ∧ nameless (V.test b) = true := fun h => ⟨false, .inl rfl, by rw [decide_eq_false h], rfl⟩
 intro _; refine ⟨fun g => ?_, fun g => ?_⟩
 rotate_left
 ·have g : (a == a') = false := g
  intro _
  exact no' (fun h => by rw [← hP] at h; unfold Pln at h; simp [h] at g)
 have g1 : (a == a') = true := g
 intro _; refine ⟨fun g => ?_, fun g => ?_⟩
 rotate_left
 ·have g : (b == b') = false := g
  intro _
  exact no' (fun h => by rw [← hP] at h; unfold Pln at h; simp [h] at g)
 have g2 : (b == b') = true := g
 intro _; refine ⟨fun g => ?_, fun g => ?_⟩
 rotate_left
 ·have g : (c == c') = false := g
  intro _
  exact no' (fun h => by rw [← hP] at h; unfold Pln at h; simp [h] at g)
 have g3 : (c == c') = true := g
 intro _; refine ⟨fun g => ?_, fun g => ?_⟩
 rotate_left
 ·have g : (d == d') = false := g
  intro _
  exact no' (fun h => by rw [← hP] at h; unfold Pln at h; simp [h] at g)
 have g4 : (d == d') = true := g
 intro _; refine ⟨fun g => ?_, fun g => ?_⟩
 rotate_left
 ·have g : (e == e') = false := g
  intro _
  exact no' (fun h => by rw [← hP] at h; unfold Pln at h; simp [h] at g)
 have g5 : (e == e') = true := g
 intro _; refine ⟨fun g => ?_, fun g => ?_⟩
 rotate_left
 ·have g : (f == f') = false := g
  intro _
  exact no' (fun h => by rw [← hP] at h; unfold Pln at h; simp [h] at g)
 have g6 : (f == f') = true := g
 intro _; refine ⟨fun g => ?_, fun g => ?_⟩
 rotate_left
 ·have g : ((l.length : Int) == 0) = false := g
  intro _
  exact no' (fun h => by rw [← hP] at h; unfold Pln at h; simp [h] at g)
 have g7 : ((l.length : Int) == 0) = true := g
 intro _
 refine ⟨_, .inr rfl, ?_, rfl⟩
 by_cases e : l'.length = 0
 ·rw [decide_eq_true (show P by rw [← hP]; unfold Pln; exact ⟨by simpa using g1, by simpa using g2, by simpa using g3, by simpa using g4, by simpa using g5, by simpa using g6, by simpa using g7, e⟩)]
  show V.test ((l'.length : Int) == 0) = _
  rw [e]; rfl
 ·rw [decide_eq_false (show ¬ P by rw [← hP]; unfold Pln; exact fun h => e h.2.2.2.2.2.2.2)]
  show V.test ((l'.length : Int) == 0) = _
  have : ((l'.length : Int) == 0) = false := by simpa using e
  rw [this]
def fI (x : List D) (j : Nat) : Int := (x.getD j (D.n 0)).int
def fB (x : List D) : Bool := (x.getD 5 (D.n 0)).bool
def fL (x : List D) : Rows := (x.getD 6 (D.n 0)).ac.asR
def PB (x y : List D) : Prop := Pln (fI x 0) (fI x 1) (fI x 2) (fI x 3) (fI x 4) (fI y 0) (fI y 1) (fI y 2) (fI y 3) (fI y 4) (fB x) (fB y) (fL x) (fL y)
def SB (x y : Rows) (k : Nat) : Prop := ∀ i, i < k → PB (x.getD i []) (y.getD i [])
def SR (A B : Rows) : Prop := A.length = B.length ∧ ∀ i, i < A.length → (rowR A i).length = (rowR B i).length ∧ SB (rowR A i) (rowR B i) (rowR A i).length
open Classical in
set_option maxHeartbeats 4000000 in
theorem sameR_ok (A B : Rows) (hl : A.length ≤ 9223372036854775807) (hr : ∀ i, i < A.length → (rowR A i).length ≤ 9223372036854775807) : SemF Try.prog 20 [.lst KT 47 (.recs A), .lst KT 47 (.recs B)] ⟨0, 0, []⟩ (fun v _ => v = .test (decide (SR A B)) ∧ nameless v = true) := by
 refine SemF.test ?_
 refine enter tt_ok Try.func20 (nt := 56) (cd := body Try.f20) rfl rfl rfl rfl ?_
 have no : ¬ SR A B → ∃ b, (V.bool false = .bool b ∨ V.bool false = .test b) ∧ V.test b = .test (decide (SR A B)) ∧ nameless (V.test b) = true := fun h => ⟨false, .inl rfl, by rw [decide_eq_false h], rfl⟩
 intro _; refine ⟨fun g => ?_, fun g => ?_⟩
 ·have g : ((A.length : Int) != (B.length : Int)) = true := g
  intro _
  exact no (fun h => by have := h.1; simp [this] at g)
 have g : ((A.length : Int) != (B.length : Int)) = false := g
 have e0 : (A.length : Int) = (B.length : Int) := by simpa using g
 have e : A.length = B.length := by omega
 intro _
 refine loop2 tt_ok [5] [] 0 (fun i : { i : Nat // i ≤ A.length ∧ ∀ j, j < i → (rowR A j).length = (rowR B j).length ∧ SB (rowR A j) (rowR B j) (rowR A j).length } => [(5, .int .i64 (i : Nat))]) (fun _ => []) (fun i => A.length - i) ⟨0, by omega, fun i h => by omega⟩ ?_
 intro _
 refine ⟨⟨th [] 0, rfl, rfl, rfl, rfl, rfl, rfl, ?_, ?_⟩, ?_⟩
 ·and_intros<;>try first|exact trivial|exact rfl
 ·and_intros<;>try first|exact trivial|exact rfl
 intro ⟨i, hi, him⟩
 intro _; refine ⟨fun g => ?_, fun g => ?_⟩
 rotate_left
 ·have g := of_decide_eq_false (show decide ((i : Int) < (A.length : Int)) = false from g)
  have : i = A.length := by omega
  subst this
  intro _
  exact ⟨true, .inl rfl, by rw [decide_eq_true (show SR A B from ⟨e, him⟩)], rfl⟩
 have g := of_decide_eq_true (show decide ((i : Int) < (A.length : Int)) = true from g)
 intro _; refine ⟨show 0 ≤ (i : Int) ∧ (i : Int) < (A.length : Int) by omega, ?_⟩
 intro _; refine ⟨show 0 ≤ (i : Int) ∧ (i : Int) < (B.length : Int) by omega, ?_⟩
 intro _; refine ⟨by kernel_rfl, ?_⟩
 intro _; refine ⟨fun g => ?_, fun g => ?_⟩
 ·have g : (((rowR A i).length : Int) != ((rowR B i).length : Int)) = true := g
  intro _
  exact no (fun h => by have := (h.2 i (by omega)).1; simp [this] at g)
 have g1 : (((rowR A i).length : Int) != ((rowR B i).length : Int)) = false := g
 have e1 : ((rowR A i).length : Int) = ((rowR B i).length : Int) := by simpa using g1
 have e1 : (rowR A i).length = (rowR B i).length := by omega
 have hr1 := hr i (by omega)
 intro _
 refine loop2 tt_ok [6] [] 0 (fun k : { k : Nat // k ≤ (rowR A i).length ∧ SB (rowR A i) (rowR B i) k } => [(6, .int .i64 (k : Nat))]) (fun _ => []) (fun k => (rowR A i).length - k) ⟨0, by omega, fun i h => by omega⟩ ?_
 intro _
 refine ⟨⟨th [] 0, rfl, rfl, rfl, rfl, rfl, rfl, ?_, ?_⟩, ?_⟩
 ·and_intros<;>try first|exact trivial|exact rfl
 ·and_intros<;>try first|exact trivial|exact rfl
 intro ⟨k, hk, hkm⟩
 intro _; refine ⟨show 0 ≤ (i : Int) ∧ (i : Int) < (A.length : Int) by omega, ?_⟩
 intro _; refine ⟨fun g => ?_, fun g => ?_⟩
 rotate_left
 ·have g := of_decide_eq_false (show decide ((k : Int) < ((rowR A i).length : Int)) = false from g)
  have : k = (rowR A i).length := by omega
  subst this
  refine ⟨⟨i + 1, by omega, fun j hj => ?_⟩, by simp; omega, th [] 0, rfl, rfl, rfl, rfl, rfl, rfl, ?_, ?_⟩
  ·by_cases e : j = i
   ·subst e; exact ⟨e1, hkm⟩
   ·exact him j (by omega)
  ·and_intros<;>try first|exact trivial|exact rfl
   exact (wrap_nat i (by omega)).symm
  ·and_intros<;>try first|exact trivial|exact rfl
 have g2 := of_decide_eq_true (show decide ((k : Int) < ((rowR A i).length : Int)) = true from g)
 intro _; refine ⟨show 0 ≤ (i : Int) ∧ (i : Int) < (A.length : Int) by omega, ?_⟩
 intro _; refine ⟨show 0 ≤ (k : Int) ∧ (k : Int) < ((rowR A i).length : Int) by omega, ?_⟩
 intro _; refine ⟨show 0 ≤ (i : Int) ∧ (i : Int) < (B.length : Int) by omega, ?_⟩
 intro _; refine ⟨show 0 ≤ (k : Int) ∧ (k : Int) < ((rowR B i).length : Int) by omega, ?_⟩
 intro _
 refine Or.inl ?_
 intro _
 refine call_pure [] (plain_ok (fI ((rowR A i).getD k []) 0) (fI ((rowR A i).getD k []) 1) (fI ((rowR A i).getD k []) 2) (fI ((rowR A i).getD k []) 3) (fI ((rowR A i).getD k []) 4) (fI ((rowR B i).getD k []) 0) (fI ((rowR B i).getD k []) 1) (fI ((rowR B i).getD k []) 2) (fI ((rowR B i).getD k []) 3) (fI ((rowR B i).getD k []) 4) (fB ((rowR A i).getD k [])) (fB ((rowR B i).getD k [])) (fL ((rowR A i).getD k [])) (fL ((rowR B i).getD k []))) rfl rfl rfl ?_ ?_ ?_
 ·and_intros<;>try first|exact trivial|exact rfl
 ·and_intros<;>try first|exact trivial|exact rfl
 intro v hv _
 subst hv
 intro _; refine ⟨by kernel_rfl, ?_⟩
 intro _; refine ⟨fun g => ?_, fun g => ?_⟩
 ·have g : (!decide (PB ((rowR A i).getD k []) ((rowR B i).getD k []))) = true := g
  rw [Bool.not_eq_true'] at g
  have g := of_decide_eq_false g
  intro _
  exact no (fun h => g ((h.2 i (by omega)).2 k (by omega)))
 have g : (!decide (PB ((rowR A i).getD k []) ((rowR B i).getD k []))) = false := g
 rw [Bool.not_eq_false'] at g
 have g := of_decide_eq_true g
 refine ⟨⟨k + 1, by omega, fun j hj => ?_⟩, by simp; omega, th [] 0, rfl, rfl, rfl, rfl, rfl, rfl, ?_, ?_⟩
 ·by_cases e : j = k
  ·subst e; exact g
  ·exact hkm j (by omega)
 ·and_intros<;>try first|exact trivial|exact rfl
  exact (wrap_nat k (by omega)).symm
 ·and_intros<;>try first|exact trivial|exact rfl
def L0 : Rows := [[.seq (.recs [[.n 10, .n 20], [.n 5, .n 50]])], [.seq (.recs [[.n 15, .n 15]])]]
def N0 : Rows := [[.n 15, .n 20], [.n 5, .n 50]]
theorem nd_L0 : nd L0 = (N0, 0) := by
 unfold nd
 rw [if_pos ⟨by decide, by decide, by decide⟩]; rfl
theorem nd_nil : nd [] = ([], 1) := by
 unfold nd
 rw [if_neg (fun h => by have := h.2.2; simp [cw] at this)]
theorem wr1 : wr N0 100 2 = ([20, 50], 0) := by decide
theorem wr2 : wr N0 62 2 = ([19, 41], 0) := by decide
theorem wr3 : wr N0 21 2 = ([], 22) := by decide
def P0 : Rows := [[.seq (.ints [7, 9])], [.seq (.ints [5])]]
def R0 : Rows := [[.seq (.recs [bx 0 0 20 9, bx 22 0 50 9])], [.seq (.recs [bx 0 11 20 5])]]
theorem pl0 : pl [20, 50] P0 2 = (R0, 16, 0) := by
 unfold pl
 rw [if_pos ⟨⟨by decide, by decide, by decide⟩, by decide, by decide⟩, if_neg (by decide)]; rfl
theorem sr0 : SR R0 R0 := ⟨rfl, fun i h => ⟨rfl, fun k hk => by
 have h : i < 2 := h
 have : i = 0 ∨ i = 1 := by omega
 rcases this with rfl | rfl
 ·have hk : k < 2 := hk
  have : k = 0 ∨ k = 1 := by omega
  rcases this with rfl | rfl <;> exact ⟨rfl, rfl, rfl, rfl, rfl, rfl, rfl, rfl⟩
 ·have hk : k < 1 := hk
  have : k = 0 := by omega
  subst this; exact ⟨rfl, rfl, rfl, rfl, rfl, rfl, rfl, rfl⟩⟩⟩
theorem sn0 : SN N0 N0 := ⟨rfl, fun i h => ⟨rfl, rfl⟩⟩
theorem si0 (l : List Int) : SI l l := ⟨rfl, fun i h => rfl⟩
open Classical in
set_option maxHeartbeats 4000000 in
theorem hd_ok : SemF Try.prog 9 [] ⟨1, 1, [(0, .tok)]⟩ (fun v _ => v = .test true ∧ nameless v = true) := by
 refine SemF.test ?_
 refine enter tt_ok Try.func9 (nt := 108) (cd := body Try.f9) rfl rfl rfl rfl ?_
 intro _
 refine ⟨rfl, rfl, ?_⟩
 intro _
 refine call_frz (args' := [.lst KT 23 (.recs L0)]) 3 2 KT 23 (.recs L0) (show 3 < 4 by omega) ⟨rfl, rfl, rfl, rfl⟩ ⟨⟨rfl, rfl, rfl, rfl⟩, trivial⟩ ?_
 refine call_new [] (needs_ok L0 (by decide)) rfl rfl rfl rfl ?_ ?_ ?_
 ·and_intros<;>try first|exact trivial|exact rfl
 ·and_intros<;>try first|exact trivial|exact rfl
 intro v h' hv
 obtain ⟨rfl, rfl⟩ := hv
 rw [nd_L0]
 refine ⟨[(4, some 0)], 5, [(4, .arr K2 .grow (.recs N0))], .tup [.grw 4 2, .int .i64 0], rfl, rfl, rfl, rfl, rfl, ?_, ?_, ?_⟩
 ·and_intros<;>try first|exact trivial|exact rfl
 ·and_intros<;>try first|exact trivial|exact rfl
 intro _
 refine call_new [(0, some 4)] (widths_ok N0 100 2 (by decide)) rfl rfl rfl rfl ?_ ?_ ?_
 ·and_intros<;>try first|exact trivial|exact rfl
 ·and_intros<;>try first|exact trivial|exact rfl
 intro v h' hv
 obtain ⟨rfl, rfl⟩ := hv
 rw [wr1]
 refine ⟨[(5, some 1)], 6, [(5, .arr K1 .grow (.ints [20, 50]))], .tup [.grw 5 2, .int .i64 0], rfl, rfl, rfl, rfl, rfl, ?_, ?_, ?_⟩
 ·and_intros<;>try first|exact trivial|exact rfl
 ·and_intros<;>try first|exact trivial|exact rfl
 intro _
 refine call_new [(0, some 4)] (widths_ok N0 62 2 (by decide)) rfl rfl rfl rfl ?_ ?_ ?_
 ·and_intros<;>try first|exact trivial|exact rfl
 ·and_intros<;>try first|exact trivial|exact rfl
 intro v h' hv
 obtain ⟨rfl, rfl⟩ := hv
 rw [wr2]
 refine ⟨[(6, some 1)], 7, [(6, .arr K1 .grow (.ints [19, 41]))], .tup [.grw 6 2, .int .i64 0], rfl, rfl, rfl, rfl, rfl, ?_, ?_, ?_⟩
 ·and_intros<;>try first|exact trivial|exact rfl
 ·and_intros<;>try first|exact trivial|exact rfl
 intro _
 refine call_new [(0, some 4)] (widths_ok N0 21 2 (by decide)) rfl rfl rfl rfl ?_ ?_ ?_
 ·and_intros<;>try first|exact trivial|exact rfl
 ·and_intros<;>try first|exact trivial|exact rfl
 intro v h' hv
 obtain ⟨rfl, rfl⟩ := hv
 rw [wr3]
 refine ⟨[(7, some 1)], 8, [(7, .arr K1 .grow (.ints []))], .tup [.grw 7 0, .int .i64 22], rfl, rfl, rfl, rfl, rfl, ?_, ?_, ?_⟩
 ·and_intros<;>try first|exact trivial|exact rfl
 ·and_intros<;>try first|exact trivial|exact rfl
 intro _
 refine ⟨rfl, rfl, ?_⟩
 intro _
 refine call_frz (args' := [.grw 8 2, .lst KT 24 (.recs P0), .int .i64 2]) 11 2 KT 24 (.recs P0) (show 11 < 12 by omega) ⟨rfl, rfl, rfl, rfl⟩ ⟨rfl, ⟨rfl, rfl, rfl, rfl⟩, rfl, trivial⟩ ?_
 refine call_new [(0, some 8), (1, some 0)] (place_ok [20, 50] P0 2 (by decide) (by decide) (by decide)) rfl rfl rfl rfl ?_ ?_ ?_
 ·and_intros<;>try first|exact trivial|exact rfl
 ·and_intros<;>try first|exact trivial|exact rfl
 intro v h' hv
 have hv : v = .tup [.lst KT 47 (.recs (pl [20, 50] P0 2).1), .int .i64 (pl [20, 50] P0 2).2.1, .int .i64 (pl [20, 50] P0 2).2.2] := hv
 rw [pl0] at hv
 subst hv
 refine ⟨[], 12, [], .tup [.lst KT 47 (.recs R0), .int .i64 16, .int .i64 0], rfl, rfl, rfl, rfl, rfl, ?_, ?_, ?_⟩
 ·and_intros<;>try first|exact trivial|exact rfl
 ·and_intros<;>try first|exact trivial|exact rfl
 intro _
 refine call_new [] (needs_ok [] (by decide)) rfl rfl rfl rfl ?_ ?_ ?_
 ·and_intros<;>try first|exact trivial|exact rfl
 ·and_intros<;>try first|exact trivial|exact rfl
 intro v h' hv
 obtain ⟨rfl, rfl⟩ := hv
 rw [nd_nil]
 refine ⟨[(12, some 0)], 13, [(12, .arr K2 .grow (.recs []))], .tup [.grw 12 0, .int .i64 1], rfl, rfl, rfl, rfl, rfl, ?_, ?_, ?_⟩
 ·and_intros<;>try first|exact trivial|exact rfl
 ·and_intros<;>try first|exact trivial|exact rfl
 intro _; refine ⟨fun _ => ?_, fun g => absurd g (by decide)⟩
 intro _; refine ⟨fun _ => ?_, fun g => absurd g (by decide)⟩
 intro _; refine ⟨fun _ => ?_, fun g => absurd g (by decide)⟩
 intro _; refine ⟨fun _ => ?_, fun g => absurd g (by decide)⟩
 intro _; refine ⟨fun _ => ?_, fun g => absurd g (by decide)⟩
 intro _; refine ⟨fun _ => ?_, fun g => absurd g (by decide)⟩
 intro _; refine ⟨fun _ => ?_, fun g => absurd g (by decide)⟩
 intro _
 refine call_pure [(0, some 4), (1, some 13)] (sameN_ok N0 N0 (by decide)) rfl rfl rfl ?_ ?_ ?_
 ·and_intros<;>try first|exact trivial|exact rfl
 ·and_intros<;>try first|exact trivial|exact rfl
 intro v hv _
 rw [decide_eq_true sn0] at hv
 subst hv
 intro _; refine ⟨fun _ => ?_, fun g => absurd g (by decide)⟩
 intro _
 refine call_pure [(0, some 5), (1, some 14)] (sameI_ok [20, 50] [20, 50] (by decide)) rfl rfl rfl ?_ ?_ ?_
 ·and_intros<;>try first|exact trivial|exact rfl
 ·and_intros<;>try first|exact trivial|exact rfl
 intro v hv _
 rw [decide_eq_true (si0 _)] at hv
 subst hv
 intro _; refine ⟨fun _ => ?_, fun g => absurd g (by decide)⟩
 intro _
 refine call_pure [(0, some 6), (1, some 15)] (sameI_ok [19, 41] [19, 41] (by decide)) rfl rfl rfl ?_ ?_ ?_
 ·and_intros<;>try first|exact trivial|exact rfl
 ·and_intros<;>try first|exact trivial|exact rfl
 intro v hv _
 rw [decide_eq_true (si0 _)] at hv
 subst hv
 intro _; refine ⟨fun _ => ?_, fun g => absurd g (by decide)⟩
 intro _
 intro _
 intro _
 refine ⟨rfl, rfl, rfl, rfl, ?_⟩
 intro _
 refine call_frz (args' := [.lst KT 47 (.recs R0), .lst KT 47 (.recs R0)]) 18 2 KT 47 (.recs R0) (show 18 < 19 by omega) ⟨rfl, rfl, rfl, rfl⟩ ⟨rfl, ⟨rfl, rfl, rfl, rfl⟩, trivial⟩ ?_
 refine call_pure [] (sameR_ok R0 R0 (by decide) (by decide)) rfl rfl rfl ?_ ?_ ?_
 ·and_intros<;>try first|exact trivial|exact rfl
 ·and_intros<;>try first|exact trivial|exact rfl
 intro v hv _
 rw [decide_eq_true sr0] at hv
 subst hv
 intro _
 exact ⟨true, by first | exact .inr rfl | exact .inl rfl, rfl, rfl⟩
def rv (L : Rows) (k : Nat) : Rows := (List.range k).map fun i => [.seq (.recs (rowR L (L.length - 1 - i)))]
theorem rv_len (L : Rows) (k : Nat) : (rv L k).length = k := by simp [rv]
theorem rv_next (L : Rows) (k : Nat) : rv L (k + 1) = rv L k ++ [[.seq (.recs (rowR L (L.length - 1 - k)))]] := by simp [rv, List.range_succ]
theorem rv_row (L : Rows) (n i : Nat) (h : i < n) : rowR (rv L n) i = rowR L (L.length - 1 - i) := by
 unfold rowR rv
 simp only [List.getD_eq_getElem?_getD, List.getElem?_map, List.getElem?_range h]; rfl
theorem cw_le (L : Rows) (c : Nat) : ∀ m, cw L m ≤ c ↔ ∀ i, i < m → (rowR L i).length ≤ c
 | 0 => by simp [cw]
 | m + 1 => by
  have ih := cw_le L c m
  have : cw L (m + 1) ≤ c ↔ cw L m ≤ c ∧ (rowR L m).length ≤ c := by simp only [cw]; omega
  rw [this, ih]
  constructor
  ·intro h i hi
   by_cases e : i = m
   ·subst e; exact h.2
   ·exact h.1 i (by omega)
  ·intro h
   exact ⟨fun i hi => h i (by omega), h m (by omega)⟩
theorem mxr_le (f : Rows → Nat → Int) (L : Rows) (k : Nat) (c : Int) : ∀ m, mxr f L k m ≤ c ↔ 0 ≤ c ∧ ∀ i, i < m → k < (rowR L i).length → f (rowR L i) k ≤ c
 | 0 => by simp [mxr]
 | m + 1 => by
  have ih := mxr_le f L k c m
  have : mxr f L k (m + 1) ≤ c ↔ mxr f L k m ≤ c ∧ (k < (rowR L m).length → f (rowR L m) k ≤ c) := by
   simp only [mxr]
   split <;> omega
  rw [this, ih]
  constructor
  ·intro h
   refine ⟨h.1.1, fun i hi hk => ?_⟩
   by_cases e : i = m
   ·subst e; exact h.2 hk
   ·exact h.1.2 i (by omega) hk
  ·intro h
   exact ⟨⟨h.1, fun i hi => h.2 i (by omega)⟩, h.2 m (by omega)⟩
theorem cw_rv (L : Rows) : cw (rv L L.length) L.length = cw L L.length := by
 apply Nat.le_antisymm
 ·rw [cw_le]; intro i hi; rw [rv_row L _ i hi]; exact (cw_le L _ L.length).1 (Nat.le_refl _) (L.length - 1 - i) (by omega)
 ·rw [cw_le]; intro i hi
  have := (cw_le (rv L L.length) _ L.length).1 (Nat.le_refl _) (L.length - 1 - i) (by omega)
  rw [rv_row L L.length _ (by omega), show L.length - 1 - (L.length - 1 - i) = i by omega] at this
  exact this
theorem mxr_rv (f : Rows → Nat → Int) (L : Rows) (k : Nat) : mxr f (rv L L.length) k L.length = mxr f L k L.length := by
 apply Int.le_antisymm
 ·rw [mxr_le]
  refine ⟨((mxr_le f L k _ _).1 (Int.le_refl _)).1, fun i hi hk => ?_⟩
  rw [rv_row L _ i hi] at hk ⊢; exact ((mxr_le f L k _ L.length).1 (Int.le_refl _)).2 (L.length - 1 - i) (by omega) hk
 ·rw [mxr_le]
  refine ⟨((mxr_le f (rv L L.length) k _ _).1 (Int.le_refl _)).1, fun i hi hk => ?_⟩
  have := ((mxr_le f (rv L L.length) k _ L.length).1 (Int.le_refl _)).2 (L.length - 1 - i) (by omega)
  rw [rv_row L L.length _ (by omega), show L.length - 1 - (L.length - 1 - i) = i by omega] at this
  exact this hk
theorem NOk_rv (L : Rows) : NOk (rv L L.length) ↔ NOk L := by
 unfold NOk
 rw [rv_len, cw_rv]
 constructor
 ·intro ⟨a, b, c⟩
  refine ⟨a, fun i hi => ?_, c⟩
  have := b (L.length - 1 - i) (by omega)
  rw [rv_row L L.length _ (by omega), show L.length - 1 - (L.length - 1 - i) = i by omega] at this
  exact this
 ·intro ⟨a, b, c⟩
  refine ⟨a, fun i hi => ?_, c⟩
  rw [rv_row L _ _ (by omega)]
  exact b _ (by omega)
theorem nd_rv (L : Rows) : nd (rv L L.length) = nd L := by
 unfold nd
 by_cases e : NOk L
 ·rw [if_pos e, if_pos ((NOk_rv L).2 e)]
  have : NA (rv L L.length) (rv L L.length).length 0 = NA L L.length 0 := by
   unfold NA
   rw [rv_len, cw_rv]
   congr 1
   funext k
   unfold nrow
   simp only [ac_zero, mxr_rv]
  rw [this]
 ·rw [if_neg e, if_neg (fun h => e ((NOk_rv L).1 h))]
def Fnd (f : Rows → Nat → Int) (L : Rows) (k m : Nat) : Prop := ∃ i, i < m ∧ k < (rowR L i).length ∧ f (rowR L i) k = mxr f L k L.length
theorem fnd_all {f : Rows → Nat → Int} {L : Rows} {k : Nat} (hk : k < cw L L.length) (h0 : ∀ i, i < L.length → k < (rowR L i).length → 0 ≤ f (rowR L i) k) : Fnd f L k L.length := by
 have key : ∀ m, (∀ i, i < m → k < (rowR L i).length → 0 ≤ f (rowR L i) k) → k < cw L m → ∃ i, i < m ∧ k < (rowR L i).length ∧ f (rowR L i) k = mxr f L k m := by
  intro m
  induction m with
  | zero => intro _ h; simp [cw] at h
  | succ m ih =>
   intro h1 h2
   have h1' : ∀ i, i < m → k < (rowR L i).length → 0 ≤ f (rowR L i) k := fun i hi => h1 i (by omega)
   by_cases e : k < (rowR L m).length
   ·have hm := h1 m (by omega) e
    by_cases e2 : mxr f L k m ≤ f (rowR L m) k
    ·refine ⟨m, by omega, e, ?_⟩
     simp only [mxr]; rw [if_pos e]; omega
    ·have : k < cw L m := by
      by_cases e3 : k < cw L m
      ·exact e3
      ·exact absurd (mxr_zero f L k m (by omega)) (by omega)
     obtain ⟨i, a, b, c⟩ := ih h1' this
     refine ⟨i, by omega, b, ?_⟩
     rw [c]; simp only [mxr]; rw [if_pos e]; omega
   ·have : k < cw L m := by simp only [cw] at h2; omega
    obtain ⟨i, a, b, c⟩ := ih h1' this
    refine ⟨i, by omega, b, ?_⟩
    rw [c]; simp only [mxr]; rw [if_neg e]
 exact key _ h0 hk
theorem fnd_next (f : Rows → Nat → Int) (L : Rows) (k i : Nat) : Fnd f L k (i + 1) ↔ Fnd f L k i ∨ (k < (rowR L i).length ∧ f (rowR L i) k = mxr f L k L.length) := by
 constructor
 ·intro ⟨j, a, b, c⟩
  by_cases e : j = i
  ·subst e; exact .inr ⟨b, c⟩
  ·exact .inl ⟨j, by omega, b, c⟩
 ·rintro (⟨j, a, b, c⟩ | ⟨b, c⟩)
  ·exact ⟨j, by omega, b, c⟩
  ·exact ⟨i, by omega, b, c⟩
open Classical in
theorem fnd_t {f : Rows → Nat → Int} {L : Rows} {k i : Nat} (h : Fnd f L k i) : decide (Fnd f L k (i + 1)) = true := decide_eq_true ((fnd_next f L k i).2 (.inl h))
open Classical in
theorem fnd_f {f : Rows → Nat → Int} {L : Rows} {k i : Nat} {t : Int} (h : ¬ Fnd f L k i) (hk : k < (rowR L i).length) (ht : t = mxr f L k L.length) : decide (Fnd f L k (i + 1)) = (f (rowR L i) k == t) := by
 subst ht
 by_cases e : f (rowR L i) k = mxr f L k L.length
 ·rw [decide_eq_true ((fnd_next f L k i).2 (.inr ⟨hk, e⟩))]; simp [e]
 ·rw [decide_eq_false (fun h2 => ((fnd_next f L k i).1 h2).elim h (fun h3 => e h3.2))]
  exact (beq_eq_false_iff_ne.2 e).symm
theorem rv_nok {L : Rows} (h : NOk L) {i k : Nat} (hi : i < L.length) (hk : k < (rowR L i).length) : Nd (rowR L i) k := (h.2.1 i hi).2 k hk
theorem row_le {L : Rows} {i : Nat} (hi : i < L.length) : (rowR L i).length ≤ cw L L.length := (cw_le L _ _).1 (Nat.le_refl _) i hi
theorem val_le (f : Rows → Nat → Int) {L : Rows} {i k : Nat} (hi : i < L.length) (hk : k < (rowR L i).length) : f (rowR L i) k ≤ mxr f L k L.length := ((mxr_le f L k _ _).1 (Int.le_refl _)).2 i hi hk
theorem top_lo {L : Rows} {k : Nat} (h : k < cw L L.length) : lo (NA L L.length 0) k = mxr lo L k L.length := by
 show (((NA L L.length 0).getD k []).getD 0 (D.n 0)).int = _
 rw [NA_get L L.length 0 k (by omega)]
 show ac lo L L.length 0 k = _
 rw [ac_zero]
theorem top_hi {L : Rows} {k : Nat} (h : k < cw L L.length) : hi (NA L L.length 0) k = mxr hi L k L.length := by
 show (((NA L L.length 0).getD k []).getD 1 (D.n 0)).int = _
 rw [NA_get L L.length 0 k (by omega)]
 show ac hi L L.length 0 k = _
 rw [ac_zero]
open Classical in
set_option maxHeartbeats 4000000 in
theorem law4 (L : Rows) (hl : L.length ≤ 9223372036854775807) (hr : ∀ i, i < L.length → (rowR L i).length ≤ 9223372036854775807) : SemF Try.prog 4 [.lst KT 23 (.recs L)] ⟨1, 0, [(0, .tok)]⟩ (fun v _ => IsTrue v) := by
 refine enter tt_ok Try.func4 (nt := 157) (cd := body Try.f4) rfl rfl rfl rfl ?_
 intro _
 refine call_pure [(0, some 0)] (hd_ok) rfl rfl rfl ?_ ?_ ?_
 ·and_intros<;>try first|exact trivial|exact rfl
 ·and_intros<;>try first|exact trivial|exact rfl
 intro v hv _
 subst hv
 intro _
 refine call_pure [] (few_ok L hl) rfl rfl rfl ?_ ?_ ?_
 ·and_intros<;>try first|exact trivial|exact rfl
 ·and_intros<;>try first|exact trivial|exact rfl
 intro v hv _
 subst hv
 intro _; refine ⟨fun g => ?_, fun g => ?_⟩
 ·intro _
  rfl
 have g : (!decide (Few L.length fun i => (rowR L i).length)) = false := g
 rw [Bool.not_eq_false'] at g
 have hF := of_decide_eq_true g
 have hF1 := hF.1
 have hF2 : ∀ i, i < L.length → (rowR L i).length ≤ 70 := hF.2
 intro _
 refine call_new [] (needs_ok L hl) rfl rfl rfl rfl ?_ ?_ ?_
 ·and_intros<;>try first|exact trivial|exact rfl
 ·and_intros<;>try first|exact trivial|exact rfl
 intro v h' hv
 obtain ⟨rfl, rfl⟩ := hv
 refine ⟨[(1, some 0)], 2, [(1, .arr K2 .grow (.recs (nd L).1))], .tup [.grw 1 (nd L).1.length, .int .i64 (nd L).2], rfl, rfl, rfl, rfl, rfl, ?_, ?_, ?_⟩
 ·and_intros<;>try first|exact trivial|exact rfl
 ·and_intros<;>try first|exact trivial|exact rfl
 intro _
 refine loop2 tt_ok [7, 6] [2] 3 (fun k : Fin (L.length + 1) => [(7, .int .i64 ((L.length : Int) - 1 - (k : Nat))), (6, .grw 2 (k : Nat))]) (fun k => [(2, .tarr KT 23 .grow (.recs (rv L k)))]) (fun k => L.length - k) ⟨0, by omega⟩ ?_
 intro _
 refine ⟨⟨th [(2, none)] 3, rfl, rfl, rfl, rfl, rfl, rfl, ?_, ?_⟩, ?_⟩
 ·and_intros<;>try first|exact trivial|exact rfl
  have e : (L.length : Int) - 1 - ((0 : Nat) : Int) = IntKind.i64.wrap ((L.length : Int) - 1) := by rw [wrapS _ ⟨by omega, by omega⟩]; simp
  exact e
 ·and_intros<;>try first|exact trivial|exact rfl
 intro ⟨k, hk⟩
 intro _; refine ⟨fun g => ?_, fun g => ?_⟩
 ·have g := of_decide_eq_true (show decide ((L.length : Int) - 1 - (k : Nat) ≥ 0) = true from g)
  intro _; refine ⟨show 0 ≤ (L.length : Int) - 1 - (k : Nat) ∧ (L.length : Int) - 1 - (k : Nat) < (L.length : Int) by omega, ?_⟩
  intro _; refine ⟨rfl, rfl, ?_⟩
  intro _; refine ⟨rfl, rfl, ?_⟩
  intro _; refine ⟨fun g3 => by simp at g3, fun _ => ?_⟩
  refine ⟨⟨rfl, (rv_len L k).symm, show k + 1 ≤ 4611686018427387904 by omega, show (k + 1) * 24 ≤ 140737488355328 by omega⟩, ?_⟩
  refine ⟨⟨k + 1, by omega⟩, by simp; omega, th [(2, some 4)] 3, rfl, rfl, rfl, rfl, rfl, rfl, ?_, ?_⟩
  ·and_intros<;>try first|exact trivial|exact rfl
   have e : (L.length : Int) - 1 - ((k + 1 : Nat) : Int) = IntKind.i64.wrap ((L.length : Int) - 1 - (k : Nat) - 1) := by rw [wrapS _ ⟨by omega, by omega⟩]; omega
   exact e
  ·and_intros<;>try first|exact trivial|exact rfl
   have e : ((L.length : Int) - 1 - (k : Nat)).toNat = L.length - 1 - k := by omega
   show rv L (k + 1) = rv L k ++ [[.seq (.recs (rowR L ((L.length : Int) - 1 - (k : Nat)).toNat))]]
   rw [e]; exact rv_next L k
 have g := of_decide_eq_false (show decide ((L.length : Int) - 1 - (k : Nat) ≥ 0) = false from g)
 have : k = L.length := by omega
 subst this
 intro _
 refine call_frz (args' := [.lst KT 23 (.recs (rv L L.length))]) 2 L.length KT 23 (.recs (rv L L.length)) (show 2 < 3 by omega) ⟨rfl, (rv_len L L.length).symm, rfl, rfl⟩ ⟨⟨rfl, rfl, rfl, rfl⟩, trivial⟩ ?_
 refine call_new [] (needs_ok (rv L L.length) (by rw [rv_len]; omega)) rfl rfl rfl rfl ?_ ?_ ?_
 ·and_intros<;>try first|exact trivial|exact rfl
 ·and_intros<;>try first|exact trivial|exact rfl
 intro v h' hv
 obtain ⟨rfl, rfl⟩ := hv
 rw [nd_rv]
 refine ⟨[(3, some 0)], 4, [(3, .arr K2 .grow (.recs (nd L).1))], .tup [.grw 3 (nd L).1.length, .int .i64 (nd L).2], rfl, rfl, rfl, rfl, rfl, ?_, ?_, ?_⟩
 ·and_intros<;>try first|exact trivial|exact rfl
 ·and_intros<;>try first|exact trivial|exact rfl
 intro _; refine ⟨fun g => ?_, fun g => ?_⟩
 ·have g : ((nd L).2 != 0) = true := g
  have hn : ¬ NOk L := fun h => by unfold nd at g; rw [if_pos h] at g; simp at g
  have e : nd L = ([], 1) := by unfold nd; rw [if_neg hn]
  rw [e]
  intro _; refine ⟨fun _ => ?_, fun g => absurd g (by decide)⟩
  intro _; refine ⟨fun _ => ?_, fun g => absurd g (by decide)⟩
  intro _; refine ⟨fun _ => ?_, fun g => absurd g (by decide)⟩
  intro _
  rfl
 have g : ((nd L).2 != 0) = false := g
 have hn : NOk L := by
  by_cases h : NOk L
  ·exact h
  ·unfold nd at g; rw [if_neg h] at g; simp at g
 have e : nd L = (NA L L.length 0, 0) := by unfold nd; rw [if_pos hn]
 rw [e]
 have hcw := cw_bd L L.length (fun i hI => (hn.2.1 i hI).1)
 have eL : (NA L L.length 0).length = cw L L.length := by rw [NA_len]; omega
 intro _
 refine loop2 tt_ok [10] [] 4 (fun k : Fin (cw L L.length + 1) => [(10, .int .i64 (k : Nat))]) (fun _ => []) (fun k => cw L L.length - k) ⟨0, by omega⟩ ?_
 intro _
 refine ⟨⟨th [] 4, rfl, rfl, rfl, rfl, rfl, rfl, ?_, ?_⟩, ?_⟩
 ·and_intros<;>try first|exact trivial|exact rfl
 ·and_intros<;>try first|exact trivial|exact rfl
 intro ⟨k, hk⟩
 intro _; refine ⟨fun g => ?_, fun g => ?_⟩
 ·have g := of_decide_eq_true (show decide ((k : Int) < ((NA L L.length 0).length : Int)) = true from g)
  rw [eL] at g
  have hkc : k < cw L L.length := by omega
  have z0 : 0 + k = k := Nat.zero_add k
  intro _
  refine loop2 tt_ok [13, 11, 12] [] 4 (fun i : Fin (L.length + 1) => [(13, .int .i64 (i : Nat)), (11, .test (decide (Fnd lo L k i))), (12, .test (decide (Fnd hi L k i)))]) (fun _ => []) (fun i => L.length - i) ⟨0, by omega⟩ ?_
  intro _
  refine ⟨⟨th [] 4, rfl, rfl, rfl, rfl, rfl, rfl, ?_, ?_⟩, ?_⟩
  ·and_intros<;>try first|exact trivial|exact rfl
   ·exact decide_eq_false (fun ⟨i, h, _⟩ => absurd h (Nat.not_lt_zero i))
   ·exact decide_eq_false (fun ⟨i, h, _⟩ => absurd h (Nat.not_lt_zero i))
  ·and_intros<;>try first|exact trivial|exact rfl
  intro ⟨i, hI⟩
  intro _; refine ⟨fun g => ?_, fun g => ?_⟩
  ·have gi := of_decide_eq_true (show decide ((i : Int) < (L.length : Int)) = true from g)
   intro _; refine ⟨show 0 ≤ (i : Int) ∧ (i : Int) < (L.length : Int) by omega, ?_⟩
   intro _; refine ⟨fun g => ?_, fun g => ?_⟩
   ·have gk := of_decide_eq_true (show decide ((k : Int) ≥ ((rowR L i).length : Int)) = true from g)
    have ef : ∀ f, Fnd f L k (i + 1) ↔ Fnd f L k i := fun f => by
     rw [fnd_next]; exact ⟨fun h => h.elim id (fun h => by omega), .inl⟩
    refine ⟨⟨i + 1, by omega⟩, by simp; omega, th [] 4, rfl, rfl, rfl, rfl, rfl, rfl, ?_, ?_⟩
    ·and_intros<;>try first|exact trivial|exact rfl
     ·exact (wrap_nat i (by omega)).symm
     ·exact decide_eq_decide.2 (ef lo)
     ·exact decide_eq_decide.2 (ef hi)
    ·and_intros<;>try first|exact trivial|exact rfl
   have gk := of_decide_eq_false (show decide ((k : Int) ≥ ((rowR L i).length : Int)) = false from g)
   intro _; refine ⟨show 0 ≤ (i : Int) ∧ (i : Int) < (L.length : Int) by omega, ?_⟩
   intro _; refine ⟨show 0 ≤ (k : Int) ∧ (k : Int) < ((rowR L i).length : Int) by omega, ?_⟩
   intro _; refine ⟨show 0 ≤ (k : Int) ∧ (k : Int) < ((NA L L.length 0).length : Int) by omega, ?_⟩
   intro _; refine ⟨show (k : Int).toNat < (NA L L.length 0).length by omega, ?_⟩
   have v1 := val_le lo (L := L) (i := i) (k := k) (by omega) (by omega)
   have v2 := val_le hi (L := L) (i := i) (k := k) (by omega) (by omega)
   intro _; refine ⟨fun g => ?_, fun g => ?_⟩
   ·have g := of_decide_eq_true (show decide (lo (rowR L i) k > lo (NA L L.length 0) k) = true from g)
    rw [top_lo hkc] at g; omega
   intro _; refine ⟨show 0 ≤ (k : Int) ∧ (k : Int) < ((NA L L.length 0).length : Int) by omega, ?_⟩
   intro _; refine ⟨show (k : Int).toNat < (NA L L.length 0).length by omega, ?_⟩
   intro _; refine ⟨by kernel_rfl, ?_⟩
   intro _; refine ⟨fun g => ?_, fun g => ?_⟩
   ·have g := of_decide_eq_true (show decide (hi (rowR L i) k > hi (NA L L.length 0) k) = true from g)
    rw [top_hi hkc] at g; omega
   intro _; refine ⟨fun g => ?_, fun g => ?_⟩
   ·have q1 : Fnd lo L k i := of_decide_eq_true (by assumption)
    intro _; refine ⟨fun g => ?_, fun g => ?_⟩
    ·have q2 : Fnd hi L k i := of_decide_eq_true (by assumption)
     intro _; refine ⟨by kernel_rfl, ?_⟩
     refine ⟨⟨i + 1, by omega⟩, by simp; omega, th [] 4, rfl, rfl, rfl, rfl, rfl, rfl, ?_, ?_⟩
     ·and_intros<;>try first|exact trivial|exact rfl
      ·exact (wrap_nat i (by omega)).symm
      ·exact fnd_t q1
      ·exact fnd_t q2
     ·and_intros<;>try first|exact trivial|exact rfl
    have q2 : ¬ Fnd hi L k i := of_decide_eq_false (by assumption)
    intro _; refine ⟨show 0 ≤ (k : Int) ∧ (k : Int) < ((NA L L.length 0).length : Int) by omega, ?_⟩
    intro _; refine ⟨show (k : Int).toNat < (NA L L.length 0).length by omega, ?_⟩
    intro _; refine ⟨by kernel_rfl, ?_⟩
    refine ⟨⟨i + 1, by omega⟩, by simp; omega, th [] 4, rfl, rfl, rfl, rfl, rfl, rfl, ?_, ?_⟩
    ·and_intros<;>try first|exact trivial|exact rfl
     ·exact (wrap_nat i (by omega)).symm
     ·exact fnd_t q1
     ·exact fnd_f q2 (by omega) (top_hi hkc)
    ·and_intros<;>try first|exact trivial|exact rfl
   have q1 : ¬ Fnd lo L k i := of_decide_eq_false (by assumption)
   intro _; refine ⟨show 0 ≤ (k : Int) ∧ (k : Int) < ((NA L L.length 0).length : Int) by omega, ?_⟩
   intro _; refine ⟨show (k : Int).toNat < (NA L L.length 0).length by omega, ?_⟩
   intro _; refine ⟨fun g => ?_, fun g => ?_⟩
   ·have q2 : Fnd hi L k i := of_decide_eq_true (by assumption)
    intro _; refine ⟨by kernel_rfl, ?_⟩
    refine ⟨⟨i + 1, by omega⟩, by simp; omega, th [] 4, rfl, rfl, rfl, rfl, rfl, rfl, ?_, ?_⟩
    ·and_intros<;>try first|exact trivial|exact rfl
     ·exact (wrap_nat i (by omega)).symm
     ·exact fnd_f q1 (by omega) (top_lo hkc)
     ·exact fnd_t q2
    ·and_intros<;>try first|exact trivial|exact rfl
   have q2 : ¬ Fnd hi L k i := of_decide_eq_false (by assumption)
   intro _; refine ⟨show 0 ≤ (k : Int) ∧ (k : Int) < ((NA L L.length 0).length : Int) by omega, ?_⟩
   intro _; refine ⟨show (k : Int).toNat < (NA L L.length 0).length by omega, ?_⟩
   intro _; refine ⟨by kernel_rfl, ?_⟩
   refine ⟨⟨i + 1, by omega⟩, by simp; omega, th [] 4, rfl, rfl, rfl, rfl, rfl, rfl, ?_, ?_⟩
   ·and_intros<;>try first|exact trivial|exact rfl
    ·exact (wrap_nat i (by omega)).symm
    ·exact fnd_f q1 (by omega) (top_lo hkc)
    ·exact fnd_f q2 (by omega) (top_hi hkc)
   ·and_intros<;>try first|exact trivial|exact rfl
  have g := of_decide_eq_false (show decide ((i : Int) < (L.length : Int)) = false from g)
  have : i = L.length := by omega
  subst this
  have a1 : Fnd lo L k L.length := fnd_all hkc (fun i hI hk => (rv_nok hn hI hk).1.1)
  have a2 : Fnd hi L k L.length := fnd_all hkc (fun i hI hk => (rv_nok hn hI hk).2.1.1)
  rw [decide_eq_true a1, decide_eq_true a2]
  intro _; refine ⟨fun g => absurd g (by decide), fun _ => ?_⟩
  intro _; refine ⟨fun g => absurd g (by decide), fun _ => ?_⟩
  refine ⟨⟨k + 1, by omega⟩, by simp; omega, th [] 4, rfl, rfl, rfl, rfl, rfl, rfl, ?_, ?_⟩
  ·and_intros<;>try first|exact trivial|exact rfl
   exact (wrap_nat k (by omega)).symm
  ·and_intros<;>try first|exact trivial|exact rfl
 intro _
 refine loop2 tt_ok [15] [] 4 (fun i : Fin (L.length + 1) => [(15, .int .i64 (i : Nat))]) (fun _ => []) (fun i => L.length - i) ⟨0, by omega⟩ ?_
 intro _
 refine ⟨⟨th [] 4, rfl, rfl, rfl, rfl, rfl, rfl, ?_, ?_⟩, ?_⟩
 ·and_intros<;>try first|exact trivial|exact rfl
 ·and_intros<;>try first|exact trivial|exact rfl
 intro ⟨i, hI⟩
 intro _; refine ⟨fun g => ?_, fun g => ?_⟩
 ·have gi := of_decide_eq_true (show decide ((i : Int) < (L.length : Int)) = true from g)
  intro _; refine ⟨show 0 ≤ (i : Int) ∧ (i : Int) < (L.length : Int) by omega, ?_⟩
  intro _; refine ⟨fun g => ?_, fun g => ?_⟩
  ·have g := of_decide_eq_true (show decide (((rowR L i).length : Int) > ((NA L L.length 0).length : Int)) = true from g)
   have := row_le (L := L) (i := i) (by omega)
   omega
  refine ⟨⟨i + 1, by omega⟩, by simp; omega, th [] 4, rfl, rfl, rfl, rfl, rfl, rfl, ?_, ?_⟩
  ·and_intros<;>try first|exact trivial|exact rfl
   exact (wrap_nat i (by omega)).symm
  ·and_intros<;>try first|exact trivial|exact rfl
 intro _; refine ⟨fun _ => ?_, fun g => absurd g (by decide)⟩
 intro _; refine ⟨fun _ => ?_, fun g => absurd g (show ¬ ((0 : Int) == 0) = false by decide)⟩
 intro _
 refine call_pure [(0, some 1), (1, some 3)] (sameN_ok (NA L L.length 0) (NA L L.length 0) (by rw [eL]; have := cw_bd L L.length (fun i hI => (hn.2.1 i hI).1); omega)) rfl rfl rfl ?_ ?_ ?_
 ·and_intros<;>try first|exact trivial|exact rfl
 ·and_intros<;>try first|exact trivial|exact rfl
 intro v hv _
 rw [decide_eq_true (show SN (NA L L.length 0) (NA L L.length 0) from ⟨rfl, fun i h => ⟨rfl, rfl⟩⟩)] at hv
 subst hv
 intro _
 rfl
theorem brow_get (s w : List Int) (y h : Int) (n k : Nat) (hk : k < n) : (brow s w y h n).getD k [] = bx (s.getD k 0) y (w.getD k 0) h := by
 unfold brow
 simp only [List.getD_eq_getElem?_getD, List.getElem?_map, List.getElem?_range hk]; rfl
theorem prow_len (w : List Int) (H : Rows) (g : Int) (i : Nat) : (prow w H g i).length = (rowI H i).length := brow_len _ _ _ _ _
theorem prow_get (w : List Int) (H : Rows) (g : Int) (i k : Nat) (hk : k < (rowI H i).length) (hw : k < w.length) : (prow w H g i).getD k [] = bx (st w g k) (rtop H g i) (w.getD k 0) (rh H i) := by
 unfold prow
 rw [brow_get _ _ _ _ _ _ hk, tab_get hw]
theorem gr_le (l : List Int) : ∀ n k, k < n → l.getD k 0 ≤ gr 0 l n
 | 0, k, h => by omega
 | n + 1, k, h => by
  simp only [gr]
  by_cases e : k = n
  ·subst e; omega
  ·have := gr_le l n k (by omega); omega
theorem gr_att (l : List Int) : ∀ n, (∀ i, i < n → 0 ≤ l.getD i 0) → 0 < n → ∃ k, k < n ∧ gr 0 l n = l.getD k 0
 | 0, _, h => by omega
 | n + 1, h0, _ => by
  simp only [gr]
  by_cases e : gr 0 l n ≤ l.getD n 0
  ·exact ⟨n, by omega, by omega⟩
  ·by_cases e0 : n = 0
   ·subst e0; have := h0 0 (by omega); simp only [gr] at e; omega
   ·obtain ⟨k, a, b⟩ := gr_att l n (fun i hi => h0 i (by omega)) (by omega)
    exact ⟨k, by omega, by omega⟩
def yy (H : Rows) (g : Int) (i : Nat) : Int := ry H g i + (if 0 < i ∧ i < H.length then g else 0)
def Hit (r : List Int) (h : Int) (k : Nat) : Prop := r.length = 0 ∨ ∃ j, j < k ∧ h = r.getD j 0
theorem hit_next (r : List Int) (h : Int) (k : Nat) : Hit r h (k + 1) ↔ Hit r h k ∨ h = r.getD k 0 := by
 constructor
 ·rintro (e | ⟨j, a, b⟩)
  ·exact .inl (.inl e)
  ·by_cases e : j = k
   ·subst e; exact .inr b
   ·exact .inl (.inr ⟨j, by omega, b⟩)
 ·rintro ((e | ⟨j, a, b⟩) | b)
  ·exact .inl e
  ·exact .inr ⟨j, by omega, b⟩
  ·exact .inr ⟨k, by omega, b⟩
open Classical in
theorem hit_t {r : List Int} {h : Int} {k : Nat} (q : Hit r h k) : decide (Hit r h (k + 1)) = true := decide_eq_true ((hit_next r h k).2 (.inl q))
open Classical in
theorem hit_f {r : List Int} {h : Int} {k : Nat} (q : ¬ Hit r h k) : decide (Hit r h (k + 1)) = (h == r.getD k 0) := by
 by_cases e : h = r.getD k 0
 ·rw [decide_eq_true ((hit_next r h k).2 (.inr e))]; exact (beq_iff_eq.2 e).symm
 ·rw [decide_eq_false (fun h2 => ((hit_next r h k).1 h2).elim q e)]; exact (beq_eq_false_iff_ne.2 e).symm
def hh (h : Int) (k : Nat) : Int := if k = 0 then 0 else h
open Classical in
set_option maxHeartbeats 8000000 in
theorem law7 (w : List Int) (H : Rows) (gp : Int) (hl : w.length ≤ 9223372036854775807) (hH : H.length ≤ 9223372036854775807) (hw : ∀ i, i < w.length → -9223372036854775808 ≤ w.getD i 0 ∧ w.getD i 0 ≤ 9223372036854775807) : SemF Try.prog 7 [.slc 0 1 0 w.length, .lst KT 24 (.recs H), .int .i64 gp] ⟨2, 1, [(0, .arr [.int .i64] .ro (.ints w)), (1, .tok)]⟩ (fun v _ => IsTrue v) := by
 refine enter tt_ok Try.func7 (nt := 200) (cd := body Try.f7) rfl rfl rfl rfl ?_
 intro _
 refine call_pure [(0, some 1)] (hd_ok) rfl rfl rfl ?_ ?_ ?_
 ·and_intros<;>try first|exact trivial|exact rfl
 ·and_intros<;>try first|exact trivial|exact rfl
 intro v hv _
 subst hv
 intro _; refine ⟨fun g => ?_, fun g => ?_⟩
 ·intro _
  rfl
 have n1 := of_decide_eq_false (show decide ((H.length : Int) > 12) = false from g)
 intro _
 refine call_pure [] (fewI_ok H hH) rfl rfl rfl ?_ ?_ ?_
 ·and_intros<;>try first|exact trivial|exact rfl
 ·and_intros<;>try first|exact trivial|exact rfl
 intro v hv _
 subst hv
 intro _; refine ⟨fun g => ?_, fun g => ?_⟩
 ·intro _
  rfl
 have g : (!decide (Few H.length fun i => (rowI H i).length)) = false := g
 rw [Bool.not_eq_false'] at g
 have hF := of_decide_eq_true g
 have hF2 : ∀ i, i < H.length → (rowI H i).length ≤ 70 := hF.2
 intro _
 refine call_new [(0, some 0), (1, some 1)] (place_ok w H gp hl hH hw) rfl rfl rfl rfl ?_ ?_ ?_
 ·and_intros<;>try first|exact trivial|exact rfl
 ·and_intros<;>try first|exact trivial|exact rfl
 intro v h' hv
 have hv : v = .tup [.lst KT 47 (.recs (pl w H gp).1), .int .i64 (pl w H gp).2.1, .int .i64 (pl w H gp).2.2] := hv
 subst hv
 refine ⟨[], 2, [], .tup [.lst KT 47 (.recs (pl w H gp).1), .int .i64 (pl w H gp).2.1, .int .i64 (pl w H gp).2.2], rfl, rfl, rfl, rfl, rfl, ?_, ?_, ?_⟩
 ·and_intros<;>try first|exact trivial|exact rfl
 ·and_intros<;>try first|exact trivial|exact rfl
 intro _; refine ⟨fun g => ?_, fun g => ?_⟩
 ·have g : ((pl w H gp).2.2 != 0) = true := g
  have e : ∃ c, pl w H gp = ([], 0, c) := by
   unfold pl at g ⊢
   by_cases e : POk w H gp
   ·rw [if_pos e] at g ⊢
    by_cases e2 : ry H gp H.length > 1000000000
    ·rw [if_pos e2]; exact ⟨_, rfl⟩
    ·rw [if_neg e2] at g; simp at g
   ·rw [if_neg e]; exact ⟨_, rfl⟩
  obtain ⟨c, e⟩ := e
  rw [e]
  intro _; refine ⟨fun _ => ?_, fun g => absurd g (by decide)⟩
  intro _; refine ⟨fun _ => ?_, fun g => absurd g (show ¬ ((0 : Int) == 0) = false by decide)⟩
  intro _
  rfl
 have g : ((pl w H gp).2.2 != 0) = false := g
 have hP : POk w H gp ∧ pl w H gp = (PR w H gp H.length, ry H gp H.length, 0) := by
  unfold pl at g ⊢
  by_cases e : POk w H gp
  ·rw [if_pos e] at g ⊢
   by_cases e2 : ry H gp H.length > 1000000000
   ·rw [if_pos e2] at g; simp at g
   ·rw [if_neg e2]; exact ⟨e, rfl⟩
  ·rw [if_neg e] at g; simp at g
 obtain ⟨hP, e⟩ := hP
 rw [e]
 have eS : sr w gp = (tab w.length (st w gp), 0) := by unfold sr; rw [if_pos hP.1]
 have hS := hP.1
 have hcel := fun i (h : i < H.length) => (hP.2.2 i h).2
 have hlen := fun i (h : i < H.length) => (hP.2.2 i h).1
 intro _
 refine call_new [(0, some 0)] (starts_ok w gp hl hw) rfl rfl rfl rfl ?_ ?_ ?_
 ·and_intros<;>try first|exact trivial|exact rfl
 ·and_intros<;>try first|exact trivial|exact rfl
 intro v h' hv
 obtain ⟨rfl, rfl⟩ := hv
 rw [eS]
 refine ⟨[(2, some 1)], 3, [(2, .arr [.int .i64] .own (.ints (tab w.length (st w gp))))], .tup [.grw 2 (tab w.length (st w gp)).length, .int .i64 0], rfl, rfl, rfl, rfl, rfl, ?_, ?_, ?_⟩
 ·and_intros<;>try first|exact trivial|exact rfl
 ·and_intros<;>try first|exact trivial|exact rfl
 intro _; refine ⟨fun g => absurd g (by decide), fun _ => ?_⟩
 intro _; refine ⟨fun g => ?_, fun g => ?_⟩
 ·have g : (((tab w.length (st w gp)).length : Int) != (w.length : Int)) = true := g
  rw [tab_len] at g; simp at g
 intro _; refine ⟨fun g => ?_, fun g => ?_⟩
 ·have g : (((PR w H gp H.length).length : Int) != (H.length : Int)) = true := g
  rw [PR_len] at g; simp at g
 intro _
 refine loop2 tt_ok [14, 13] [] 3 (fun i : Fin (H.length + 1) => [(14, .int .i64 (i : Nat)), (13, .int .i64 (yy H gp i))]) (fun _ => []) (fun i => H.length - i) ⟨0, by omega⟩ ?_
 intro _
 refine ⟨⟨th [] 3, rfl, rfl, rfl, rfl, rfl, rfl, ?_, ?_⟩, ?_⟩
 ·and_intros<;>try first|exact trivial|exact rfl
 ·and_intros<;>try first|exact trivial|exact rfl
 intro ⟨i, hi⟩
 intro _; refine ⟨fun g => ?_, fun g => ?_⟩
 rotate_left
 ·have g := of_decide_eq_false (show decide ((i : Int) < ((PR w H gp H.length).length : Int)) = false from g)
  rw [PR_len] at g
  have : i = H.length := by omega
  subst this
  have eF : yy H gp H.length = ry H gp H.length := by unfold yy; rw [if_neg (fun h => by omega)]; omega
  rw [eF]
  intro _; refine ⟨fun _ => ?_, fun g => absurd g (by decide)⟩
  intro _
  show IsTrue (.test (ry H gp H.length == ry H gp H.length))
  rw [beq_self_eq_true]; rfl
 have g := of_decide_eq_true (show decide ((i : Int) < ((PR w H gp H.length).length : Int)) = true from g)
 have hPl := PR_len w H gp H.length
 have hI : i < H.length := by omega
 have eR : rowR (PR w H gp H.length) i = prow w H gp i := PR_row w H gp H.length i hI
 have eY : yy H gp i = rtop H gp i := by
  unfold yy rtop
  by_cases e : 0 < i
  ·rw [if_pos ⟨e, hI⟩, if_pos e]
  ·rw [if_neg (fun h => e h.1), if_neg e]
 have eRl : (rowR (PR w H gp H.length) i).length = (rowI H i).length := by rw [eR, prow_len]
 intro _; refine ⟨show 0 ≤ (i : Int) ∧ (i : Int) < ((PR w H gp H.length).length : Int) by omega, ?_⟩
 intro _; refine ⟨show 0 ≤ (i : Int) ∧ (i : Int) < (H.length : Int) by omega, ?_⟩
 intro _; refine ⟨fun g => ?_, fun g => ?_⟩
 ·have g : (((rowR (PR w H gp H.length) i).length : Int) != ((rowI H i).length : Int)) = true := g
  rw [eRl] at g; simp at g
 intro _; refine ⟨show 0 ≤ (i : Int) ∧ (i : Int) < ((PR w H gp H.length).length : Int) by omega, ?_⟩
 intro _; refine ⟨by kernel_rfl, ?_⟩
 intro _; refine ⟨fun g => ?_, fun g => ?_⟩
 ·have g := of_decide_eq_true (show decide (((rowR (PR w H gp H.length) i).length : Int) > (w.length : Int)) = true from g)
  have := hlen i hI
  omega
 intro _; refine ⟨show 0 ≤ (i : Int) ∧ (i : Int) < ((PR w H gp H.length).length : Int) by omega, ?_⟩
 intro _; refine ⟨by kernel_rfl, ?_⟩
 intro _
 refine loop2 tt_ok [17, 15, 16] [] 3 (fun k : Fin ((rowI H i).length + 1) => [(17, .int .i64 (k : Nat)), (15, .int .i64 (hh (rh H i) k)), (16, .test (decide (Hit (rowI H i) (rh H i) k)))]) (fun _ => []) (fun k => (rowI H i).length - k) ⟨0, by omega⟩ ?_
 intro _
 refine ⟨⟨th [] 3, rfl, rfl, rfl, rfl, rfl, rfl, ?_, ?_⟩, ?_⟩
 ·and_intros<;>try first|exact trivial|exact rfl
  have e0 : decide (Hit (rowI H i) (rh H i) 0) = (((rowR (PR w H gp H.length) i).length : Int) == 0) := by
   rw [eRl]
   by_cases e : (rowI H i).length = 0
   ·rw [decide_eq_true (show Hit (rowI H i) (rh H i) 0 from .inl e), e]; rfl
   ·rw [decide_eq_false (show ¬ Hit (rowI H i) (rh H i) 0 from fun h => h.elim e (fun ⟨j, a, _⟩ => absurd a (Nat.not_lt_zero j)))]
    symm; simpa using e
  exact e0
 ·and_intros<;>try first|exact trivial|exact rfl
 intro ⟨k, hk⟩
 intro _; refine ⟨show 0 ≤ (i : Int) ∧ (i : Int) < ((PR w H gp H.length).length : Int) by omega, ?_⟩
 intro _; refine ⟨fun g => ?_, fun g => ?_⟩
 rotate_left
 ·have g := of_decide_eq_false (show decide ((k : Int) < ((rowR (PR w H gp H.length) i).length : Int)) = false from g)
  rw [eRl] at g
  have : k = (rowI H i).length := by omega
  subst this
  have eh : hh (rh H i) (rowI H i).length = rh H i := by
   unfold hh
   by_cases e : (rowI H i).length = 0
   ·rw [if_pos e]; unfold rh; rw [e]; rfl
   ·rw [if_neg e]
  have eA : Hit (rowI H i) (rh H i) (rowI H i).length := by
   by_cases e : (rowI H i).length = 0
   ·exact .inl e
   ·exact .inr (gr_att (rowI H i) (rowI H i).length (fun j hj => (hcel i hI j hj).1) (by omega))
  rw [decide_eq_true eA, eh, eY]
  have b0 := ry_bd hS.2.1 hcel i (by omega)
  have b1 := gr_bd (l := rowI H i) _ (hcel i hI)
  have b1 : 0 ≤ rh H i ∧ rh H i ≤ 1000000 := b1
  have hg2 := hS.2.1
  have b2 : 0 ≤ rtop H gp i ∧ rtop H gp i ≤ 1100000 * i + 100000 := by unfold rtop; split <;> omega
  have eN : rtop H gp i + rh H i = ry H gp (i + 1) := by simp only [ry, rtop]
  intro _; refine ⟨fun g => absurd g (by decide), fun _ => ?_⟩
  have eW : IntKind.i64.wrap (((PR w H gp H.length).length : Int) - 1) = (H.length : Int) - 1 := by rw [hPl]; exact wrapS _ ⟨by omega, by omega⟩
  have eW1 : IntKind.i64.wrap (rtop H gp i + rh H i) = ry H gp (i + 1) := by rw [eN]; exact wrapS _ ⟨by omega, by omega⟩
  intro _; refine ⟨fun g => ?_, fun g => ?_⟩
  ·have g := of_decide_eq_true (show decide ((i : Int) < IntKind.i64.wrap (((PR w H gp H.length).length : Int) - 1)) = true from g)
   rw [eW] at g
   refine ⟨⟨i + 1, by omega⟩, by simp; omega, th [] 3, rfl, rfl, rfl, rfl, rfl, rfl, ?_, ?_⟩
   ·and_intros<;>try first|exact trivial|exact rfl
    ·exact (wrap_nat i (by omega)).symm
    ·have e5 : yy H gp (i + 1) = IntKind.i64.wrap (IntKind.i64.wrap (rtop H gp i + rh H i) + gp) := by
      rw [eW1, wrapS _ ⟨by omega, by omega⟩]
      unfold yy; rw [if_pos ⟨by omega, by omega⟩]
     exact e5
   ·and_intros<;>try first|exact trivial|exact rfl
  have g := of_decide_eq_false (show decide ((i : Int) < IntKind.i64.wrap (((PR w H gp H.length).length : Int) - 1)) = false from g)
  rw [eW] at g
  refine ⟨⟨i + 1, by omega⟩, by simp; omega, th [] 3, rfl, rfl, rfl, rfl, rfl, rfl, ?_, ?_⟩
  ·and_intros<;>try first|exact trivial|exact rfl
   ·exact (wrap_nat i (by omega)).symm
   ·have e5 : yy H gp (i + 1) = IntKind.i64.wrap (rtop H gp i + rh H i) := by
     rw [eW1]
     unfold yy; rw [if_neg (fun h => by omega)]; omega
    exact e5
  ·and_intros<;>try first|exact trivial|exact rfl
 have g := of_decide_eq_true (show decide ((k : Int) < ((rowR (PR w H gp H.length) i).length : Int)) = true from g)
 have hkr : k < (rowI H i).length := by rw [eRl] at g; omega
 have hkw : k < w.length := by have := hlen i hI; omega
 have ex : (rowR (PR w H gp H.length) i).getD k [] = bx (st w gp k) (rtop H gp i) (w.getD k 0) (rh H i) := by rw [eR]; exact prow_get w H gp i k hkr hkw
 have ex0 : (rowR (PR w H gp H.length) i).getD 0 [] = bx (st w gp 0) (rtop H gp i) (w.getD 0 0) (rh H i) := by rw [eR]; exact prow_get w H gp i 0 (by omega) (by omega)
 intro _; refine ⟨show 0 ≤ (i : Int) ∧ (i : Int) < ((PR w H gp H.length).length : Int) by omega, ?_⟩
 intro _; refine ⟨show 0 ≤ (k : Int) ∧ (k : Int) < ((rowR (PR w H gp H.length) i).length : Int) by omega, ?_⟩
 have hT := tab_len w.length (st w gp)
 intro _; refine ⟨show 0 ≤ (k : Int) ∧ (k : Int) < ((tab w.length (st w gp)).length : Int) by omega, ?_⟩
 intro _; refine ⟨show (k : Int).toNat < (tab w.length (st w gp)).length by omega, ?_⟩
 intro _; refine ⟨fun g => ?_, fun g => ?_⟩
 ·have g : (fI ((rowR (PR w H gp H.length) i).getD k []) 1 != (tab w.length (st w gp)).getD k 0) = true := g
  rw [ex, tab_get hkw] at g
  simp [fI, bx, D.int] at g
 intro _; refine ⟨show 0 ≤ (k : Int) ∧ (k : Int) < (w.length : Int) by omega, ?_⟩
 intro _; refine ⟨show 0 + (k : Int).toNat < w.length by omega, ?_⟩
 intro _; refine ⟨fun g => ?_, fun g => ?_⟩
 ·have g : (fI ((rowR (PR w H gp H.length) i).getD k []) 3 != w.getD (0 + k) 0) = true := g
  rw [ex, Nat.zero_add] at g
  simp [fI, bx, D.int] at g
 intro _; refine ⟨fun g => ?_, fun g => ?_⟩
 ·have g : (fI ((rowR (PR w H gp H.length) i).getD k []) 2 != yy H gp i) = true := g
  rw [ex, eY] at g
  simp [fI, bx, D.int] at g
 intro _; refine ⟨show 0 ≤ (i : Int) ∧ (i : Int) < (H.length : Int) by omega, ?_⟩
 intro _; refine ⟨show 0 ≤ (k : Int) ∧ (k : Int) < ((rowI H i).length : Int) by omega, ?_⟩
 intro _; refine ⟨fun g => ?_, fun g => ?_⟩
 ·have g := of_decide_eq_true (show decide (fI ((rowR (PR w H gp H.length) i).getD k []) 4 < (rowI H i).getD k 0) = true from g)
  rw [ex] at g
  have g : rh H i < (rowI H i).getD k 0 := g
  have := gr_le (rowI H i) (rowI H i).length k hkr
  have : (rowI H i).getD k 0 ≤ rh H i := this
  omega
 intro _; refine ⟨show 0 ≤ (i : Int) ∧ (i : Int) < ((PR w H gp H.length).length : Int) by omega, ?_⟩
 intro _; refine ⟨show 0 ≤ (0 : Int) ∧ (0 : Int) < ((rowR (PR w H gp H.length) i).length : Int) by omega, ?_⟩
 intro _; refine ⟨by kernel_rfl, ?_⟩
 intro _; refine ⟨fun g => ?_, fun g => ?_⟩
 ·have g : (fI ((rowR (PR w H gp H.length) i).getD k []) 4 != fI ((rowR (PR w H gp H.length) i).getD 0 []) 4) = true := g
  rw [ex, ex0] at g
  simp [fI, bx, D.int] at g
 have e4 : fI ((rowR (PR w H gp H.length) i).getD k []) 4 = rh H i := by rw [ex]; rfl
 intro _; refine ⟨fun g => ?_, fun g => ?_⟩
 ·have q : Hit (rowI H i) (rh H i) k := of_decide_eq_true (by assumption)
  intro _; refine ⟨by kernel_rfl, ?_⟩
  refine ⟨⟨k + 1, by omega⟩, by simp; omega, th [] 3, rfl, rfl, rfl, rfl, rfl, rfl, ?_, ?_⟩
  ·and_intros<;>try first|exact trivial|exact rfl
   ·exact (wrap_nat k (by omega)).symm
   ·exact e4.symm
   ·exact hit_t q
  ·and_intros<;>try first|exact trivial|exact rfl
 have q : ¬ Hit (rowI H i) (rh H i) k := of_decide_eq_false (by assumption)
 intro _; refine ⟨show 0 ≤ (i : Int) ∧ (i : Int) < (H.length : Int) by omega, ?_⟩
 intro _; refine ⟨show 0 ≤ (k : Int) ∧ (k : Int) < ((rowI H i).length : Int) by omega, ?_⟩
 intro _; refine ⟨by kernel_rfl, ?_⟩
 refine ⟨⟨k + 1, by omega⟩, by simp; omega, th [] 3, rfl, rfl, rfl, rfl, rfl, rfl, ?_, ?_⟩
 ·and_intros<;>try first|exact trivial|exact rfl
  ·exact (wrap_nat k (by omega)).symm
  ·exact e4.symm
  ·have e5 : decide (Hit (rowI H i) (rh H i) (k + 1)) = (fI ((rowR (PR w H gp H.length) i).getD k []) 4 == (rowI H i).getD k 0) := by rw [e4]; exact hit_f q
   exact e5
 ·and_intros<;>try first|exact trivial|exact rfl
theorem wf_bd {l : List Int} (h : ∀ n ∈ l, (Lit.int .i64 n).wf = true) (i : Nat) (hi : i < l.length) : -9223372036854775808 ≤ l.getD i 0 ∧ l.getD i 0 ≤ 9223372036854775807 := by
 have := h (l.getD i 0) (by rw [List.getD_eq_getElem?_getD, List.getElem?_eq_getElem hi]; exact List.getElem_mem hi)
 simp [Lit.wf, IntKind.min, IntKind.max, IntKind.signed, IntKind.bits] at this
 exact this
theorem rowI_left (A B : Rows) (i : Nat) (h : i < A.length) : rowI (A ++ B) i = rowI A i := by
 have e : (A ++ B).getD i [] = A.getD i [] := by rw [List.getD_eq_getElem?_getD, List.getElem?_append_left h, ← List.getD_eq_getElem?_getD]
 unfold rowI; rw [e]
theorem rowI_right (A B : Rows) (j : Nat) : rowI (A ++ B) (A.length + j) = rowI B j := by
 have e : (A ++ B).getD (A.length + j) [] = B.getD j [] := by rw [List.getD_eq_getElem?_getD, List.getElem?_append_right (by omega), Nat.add_sub_cancel_left, ← List.getD_eq_getElem?_getD]
 unfold rowI; rw [e]
theorem rh_left (A B : Rows) (i : Nat) (h : i < A.length) : rh (A ++ B) i = rh A i := by unfold rh; rw [rowI_left A B i h]
theorem rh_right (A B : Rows) (j : Nat) : rh (A ++ B) (A.length + j) = rh B j := by unfold rh; rw [rowI_right]
theorem ry_left (A B : Rows) (g : Int) : ∀ i, i ≤ A.length → ry (A ++ B) g i = ry A g i
 | 0, _ => rfl
 | i + 1, h => by simp only [ry]; rw [ry_left A B g i (by omega), rh_left A B i (by omega)]
theorem ry_right (A B : Rows) (g : Int) (hA : 0 < A.length) : ∀ j, 0 < j → ry (A ++ B) g (A.length + j) = ry A g A.length + g + ry B g j
 | 0, h => by omega
 | j + 1, _ => by
  show ry (A ++ B) g (A.length + j) + (if 0 < A.length + j then g else 0) + rh (A ++ B) (A.length + j) = _
  rw [rh_right, if_pos (by omega)]
  by_cases e : j = 0
  ·subst e
   rw [Nat.add_zero, ry_left A B g _ (Nat.le_refl _)]
   simp only [ry]; simp
  ·rw [ry_right A B g hA j (by omega)]
   simp only [ry]; rw [if_pos (by omega)]; omega
theorem rtop_left (A B : Rows) (g : Int) (i : Nat) (h : i < A.length) : rtop (A ++ B) g i = rtop A g i := by unfold rtop; rw [ry_left A B g i (by omega)]
theorem rtop_right (A B : Rows) (g : Int) (hA : 0 < A.length) (j : Nat) : rtop (A ++ B) g (A.length + j) = rtop B g j + (ry A g A.length + g) := by
 unfold rtop
 rw [if_pos (by omega)]
 by_cases e : j = 0
 ·subst e
  rw [Nat.add_zero, ry_left A B g _ (Nat.le_refl _)]
  simp [ry]
 ·rw [ry_right A B g hA j (by omega), if_pos (by omega)]; omega
def mrow (w : List Int) (B : Rows) (g d : Int) (j k : Nat) : Rows := brow (tab w.length (st w g)) w (rtop B g j + d) (rh B j) k
def MR (w : List Int) (A B : Rows) (g d : Int) (j : Nat) : Rows := PR w A g A.length ++ (List.range j).map fun i => [.seq (.recs (mrow w B g d i (rowI B i).length))]
theorem MR_len (w : List Int) (A B : Rows) (g d : Int) (j : Nat) : (MR w A B g d j).length = A.length + j := by simp [MR, PR_len]
theorem MR_next (w : List Int) (A B : Rows) (g d : Int) (j : Nat) : MR w A B g d (j + 1) = MR w A B g d j ++ [[.seq (.recs (mrow w B g d j (rowI B j).length))]] := by simp [MR, List.range_succ]
theorem MR_all (w : List Int) (A B : Rows) (g : Int) (hA : 0 < A.length) : PR w (A ++ B) g (A.length + B.length) = MR w A B g (ry A g A.length + g) B.length := by
 unfold PR MR
 rw [List.range_add, List.map_append, List.map_map]
 congr 1
 ·unfold PR
  apply List.map_congr_left
  intro i hi
  have hi : i < A.length := List.mem_range.1 hi
  unfold prow
  rw [rtop_left A B g i hi, rh_left A B i hi, rowI_left A B i hi]
 ·apply List.map_congr_left
  intro j hj
  show ([.seq (.recs (prow w (A ++ B) g (A.length + j)))] : List D) = _
  unfold prow mrow
  rw [rtop_right A B g hA, rh_right, rowI_right]
theorem SR_refl (X : Rows) (h : ∀ i, i < X.length → ∀ k, k < (rowR X i).length → fL ((rowR X i).getD k []) = []) : SR X X := ⟨rfl, fun i hi => ⟨rfl, fun k hk => by
 have := h i hi k hk
 refine ⟨rfl, rfl, rfl, rfl, rfl, rfl, ?_, ?_⟩ <;> rw [this] <;> rfl⟩⟩
theorem pl_ok {w : List Int} {H : Rows} {gp : Int} (g : ((pl w H gp).2.2 != 0) = false) : POk w H gp ∧ ry H gp H.length ≤ 1000000000 ∧ pl w H gp = (PR w H gp H.length, ry H gp H.length, 0) := by
 unfold pl at g ⊢
 by_cases e : POk w H gp
 ·rw [if_pos e] at g ⊢
  by_cases e2 : ry H gp H.length > 1000000000
  ·rw [if_pos e2] at g; simp at g
  ·rw [if_neg e2]; exact ⟨e, by omega, rfl⟩
 ·rw [if_neg e] at g; simp at g
theorem POk_app {w : List Int} {A B : Rows} {gp : Int} (a : POk w A gp) (b : POk w B gp) (h : A.length + B.length ≤ 4000) : POk w (A ++ B) gp := by
 refine ⟨a.1, by rw [List.length_append]; exact h, fun i hi => ?_⟩
 rw [List.length_append] at hi
 by_cases e : i < A.length
 ·rw [rowI_left A B i e]; exact a.2.2 i e
 ·have : i = A.length + (i - A.length) := by omega
  rw [this, rowI_right]; exact b.2.2 _ (by omega)
open Classical in
set_option maxHeartbeats 8000000 in
theorem law8 (w : List Int) (A B : Rows) (gp : Int) (hl : w.length ≤ 9223372036854775807) (hA : A.length ≤ 9223372036854775807) (hB : B.length ≤ 9223372036854775807) (hw : ∀ i, i < w.length → -9223372036854775808 ≤ w.getD i 0 ∧ w.getD i 0 ≤ 9223372036854775807) : SemF Try.prog 8 [.slc 0 1 0 w.length, .lst KT 24 (.recs A), .lst KT 24 (.recs B), .int .i64 gp] ⟨2, 1, [(0, .arr [.int .i64] .ro (.ints w)), (1, .tok)]⟩ (fun v _ => IsTrue v) := by
 refine enter tt_ok Try.func8 (nt := 136) (cd := body Try.f8) rfl rfl rfl rfl ?_
 intro _
 refine call_pure [(0, some 1)] (hd_ok) rfl rfl rfl ?_ ?_ ?_
 ·and_intros<;>try first|exact trivial|exact rfl
 ·and_intros<;>try first|exact trivial|exact rfl
 intro v hv _
 subst hv
 intro _
 refine call_pure [] (fewI_ok A hA) rfl rfl rfl ?_ ?_ ?_
 ·and_intros<;>try first|exact trivial|exact rfl
 ·and_intros<;>try first|exact trivial|exact rfl
 intro v hv _
 subst hv
 have one : ∀ (H : Rows), H.length ≤ 9223372036854775807 → SemF Try.prog 18 [.slc 0 1 0 w.length, .lst KT 24 (.recs H), .int .i64 gp] ⟨2, 2, [(0, .arr [.int .i64] .rd (.ints w)), (1, .tok)]⟩ (fun v _ => v = .tup [.lst KT 47 (.recs (pl w H gp).1), .int .i64 (pl w H gp).2.1, .int .i64 (pl w H gp).2.2]) := fun H hH => place_ok w H gp hl hH hw
 intro _; refine ⟨fun g => ?_, fun g => ?_⟩
 ·intro _
  rfl
 have g : (!decide (Few A.length fun i => (rowI A i).length)) = false := g
 rw [Bool.not_eq_false'] at g
 have hFA := of_decide_eq_true g
 intro _
 refine call_pure [] (fewI_ok B hB) rfl rfl rfl ?_ ?_ ?_
 ·and_intros<;>try first|exact trivial|exact rfl
 ·and_intros<;>try first|exact trivial|exact rfl
 intro v hv _
 subst hv
 intro _; refine ⟨fun g => ?_, fun g => ?_⟩
 ·intro _
  rfl
 have g : (!decide (Few B.length fun i => (rowI B i).length)) = false := g
 rw [Bool.not_eq_false'] at g
 have hFB := of_decide_eq_true g
 intro _; refine ⟨fun g => ?_, fun g => ?_⟩
 ·intro _
  rfl
 have gA : ((A.length : Int) == 0) = false := g
 intro _; refine ⟨fun g => ?_, fun g => ?_⟩
 ·intro _
  rfl
 have gB : ((B.length : Int) == 0) = false := g
 have nA : 0 < A.length := by
  rcases Nat.eq_zero_or_pos A.length with e | e
  ·rw [e] at gA; simp at gA
  ·exact e
 have nB : 0 < B.length := by
  rcases Nat.eq_zero_or_pos B.length with e | e
  ·rw [e] at gB; simp at gB
  ·exact e
 have mA : A.length ≤ 40 := hFA.1
 have mB : B.length ≤ 40 := hFB.1
 intro _
 refine call_new [(0, some 0), (1, some 1)] (one A hA) rfl rfl rfl rfl ?_ ?_ ?_
 ·and_intros<;>try first|exact trivial|exact rfl
 ·and_intros<;>try first|exact trivial|exact rfl
 intro v h' hv
 subst hv
 refine ⟨[], 2, [], .tup [.lst KT 47 (.recs (pl w A gp).1), .int .i64 (pl w A gp).2.1, .int .i64 (pl w A gp).2.2], rfl, rfl, rfl, rfl, rfl, ?_, ?_, ?_⟩
 ·and_intros<;>try first|exact trivial|exact rfl
 ·and_intros<;>try first|exact trivial|exact rfl
 intro _
 refine call_new [(0, some 0), (1, some 1)] (one B hB) rfl rfl rfl rfl ?_ ?_ ?_
 ·and_intros<;>try first|exact trivial|exact rfl
 ·and_intros<;>try first|exact trivial|exact rfl
 intro v h' hv
 subst hv
 refine ⟨[], 2, [], .tup [.lst KT 47 (.recs (pl w B gp).1), .int .i64 (pl w B gp).2.1, .int .i64 (pl w B gp).2.2], rfl, rfl, rfl, rfl, rfl, ?_, ?_, ?_⟩
 ·and_intros<;>try first|exact trivial|exact rfl
 ·and_intros<;>try first|exact trivial|exact rfl
 intro _; refine ⟨fun g => ?_, fun g => ?_⟩
 ·intro _
  rfl
 obtain ⟨pA, yA, eA⟩ := pl_ok (w := w) (H := A) (gp := gp) g
 rw [eA]
 intro _; refine ⟨fun g => ?_, fun g => ?_⟩
 ·intro _
  rfl
 obtain ⟨pB, yB, eB⟩ := pl_ok (w := w) (H := B) (gp := gp) g
 rw [eB]
 have pC := POk_app pA pB (by omega)
 have hS := pA.1
 have hg2 := hS.2.1
 have cA := fun i (h : i < A.length) => (pA.2.2 i h).2
 have cB := fun i (h : i < B.length) => (pB.2.2 i h).2
 have bA := ry_bd hg2 cA A.length (Nat.le_refl _)
 have bB := ry_bd hg2 cB B.length (Nat.le_refl _)
 have lA := PR_len w A gp A.length
 have lB := PR_len w B gp B.length
 have eC : pl w (A ++ B) gp = (MR w A B gp (ry A gp A.length + gp) B.length, ry A gp A.length + gp + ry B gp B.length, 0) := by
  have e1 := ry_right A B gp nA B.length nB
  unfold pl
  rw [if_pos pC, List.length_append, e1, if_neg (by omega), MR_all w A B gp nA]
 have eW : IntKind.i64.wrap (ry A gp A.length + gp) = ry A gp A.length + gp := wrapS _ ⟨by omega, by omega⟩
 intro _
 intro _; refine ⟨rfl, ?_⟩
 intro _; refine ⟨fun g3 => by have := Nat.eq_of_beq_eq_true g3; omega, fun _ => ?_⟩
 refine ⟨⟨rfl, rfl, show 0 + A.length ≤ 4611686018427387904 by omega, show (0 + A.length) * 24 ≤ 140737488355328 by omega⟩, ?_⟩
 intro _; refine ⟨rfl, ?_⟩
 intro _; refine ⟨fun g3 => by have := Nat.eq_of_beq_eq_true g3; omega, fun _ => ?_⟩
 refine ⟨⟨rfl, show 0 + A.length = A.length by omega, show 0 + A.length + B.length ≤ 4611686018427387904 by omega, show (0 + A.length + B.length) * 24 ≤ 140737488355328 by omega⟩, ?_⟩
 intro _
 refine call_frz (args' := [.slc 0 1 0 w.length, .lst KT 24 (.recs (A ++ B)), .int .i64 gp]) 4 (0 + A.length + B.length) KT 24 (.recs (A ++ B)) (show 4 < 5 by omega) ⟨rfl, show 0 + A.length + B.length = ([] ++ A ++ B).length by simp, rfl, rfl⟩ ⟨rfl, ⟨rfl, rfl, rfl, rfl⟩, rfl, trivial⟩ ?_
 refine call_new [(0, some 0), (1, some 1)] (one (A ++ B) (by rw [List.length_append]; omega)) rfl rfl rfl rfl ?_ ?_ ?_
 ·and_intros<;>try first|exact trivial|exact rfl
 ·and_intros<;>try first|exact trivial|exact rfl
 intro v h' hv
 rw [eC] at hv
 subst hv
 refine ⟨[], 5, [], .tup [.lst KT 47 (.recs (MR w A B gp (ry A gp A.length + gp) B.length)), .int .i64 (ry A gp A.length + gp + ry B gp B.length), .int .i64 0], rfl, rfl, rfl, rfl, rfl, ?_, ?_, ?_⟩
 ·and_intros<;>try first|exact trivial|exact rfl
 ·and_intros<;>try first|exact trivial|exact rfl
 intro _; refine ⟨fun g => absurd g (by decide), fun _ => ?_⟩
 intro _; refine ⟨fun g => ?_, fun g => ?_⟩
 ·have g : ((ry A gp A.length + gp + ry B gp B.length) != IntKind.i64.wrap (IntKind.i64.wrap (ry A gp A.length + gp) + ry B gp B.length)) = true := g
  rw [eW, wrapS _ ⟨by omega, by omega⟩] at g
  simp at g
 intro _
 intro _; refine ⟨rfl, ?_⟩
 intro _; refine ⟨fun g3 => by have g3 := Nat.eq_of_beq_eq_true (show Nat.beq (PR w A gp A.length).length 0 = true from g3); omega, fun _ => ?_⟩
 refine ⟨⟨rfl, rfl, show 0 + (PR w A gp A.length).length ≤ 4611686018427387904 by omega, show (0 + (PR w A gp A.length).length) * 24 ≤ 140737488355328 by omega⟩, ?_⟩
 intro _
 refine loop2 tt_ok [20, 19, 92] [6] 7 (fun i : Fin (B.length + 1) => [(20, .int .i64 (i : Nat)), (19, .grw 6 (A.length + (i : Nat)))]) (fun i => [(6, .tarr KT 47 .grow (.recs (MR w A B gp (ry A gp A.length + gp) i)))]) (fun i => B.length - i) ⟨0, by omega⟩ ?_
 intro _
 refine ⟨⟨th [(6, some 6)] 7, rfl, rfl, rfl, rfl, rfl, rfl, ?_, ?_⟩, ?_⟩
 ·and_intros<;>try first|exact trivial|exact rfl
  show A.length + 0 = 0 + (PR w A gp A.length).length
  omega
 ·and_intros<;>try first|exact trivial|exact rfl
  show MR w A B gp (ry A gp A.length + gp) 0 = [] ++ PR w A gp A.length
  simp [MR]
 intro ⟨i, hi⟩
 intro _; refine ⟨fun g => ?_, fun g => ?_⟩
 rotate_left
 ·have g := of_decide_eq_false (show decide ((i : Int) < ((PR w B gp B.length).length : Int)) = false from g)
  have : i = B.length := by omega
  subst this
  intro _; refine ⟨fun _ => ?_, fun g => absurd g (by decide)⟩
  have eN := MR_len w A B gp (ry A gp A.length + gp) B.length
  have pr := MR_all w A B gp nA
  have rl : ∀ i, i < A.length + B.length → (rowR (MR w A B gp (ry A gp A.length + gp) B.length) i).length ≤ 64 ∧ ∀ k, k < (rowR (MR w A B gp (ry A gp A.length + gp) B.length) i).length → fL ((rowR (MR w A B gp (ry A gp A.length + gp) B.length) i).getD k []) = [] := fun i hi => by
   rw [← pr, PR_row w (A ++ B) gp _ i hi, prow_len]
   have q := (pC.2.2 i (by rw [List.length_append]; exact hi)).1
   have := hS.1
   refine ⟨by omega, fun k hk => ?_⟩
   rw [prow_get w (A ++ B) gp i k hk (by omega)]; rfl
  intro _
  refine call_frz (args' := [.lst KT 47 (.recs (MR w A B gp (ry A gp A.length + gp) B.length)), .lst KT 47 (.recs (MR w A B gp (ry A gp A.length + gp) B.length))]) 6 (A.length + B.length) KT 47 (.recs (MR w A B gp (ry A gp A.length + gp) B.length)) (show 6 < 7 by omega) ⟨rfl, eN.symm, rfl, rfl⟩ ⟨rfl, ⟨rfl, rfl, rfl, rfl⟩, trivial⟩ ?_
  refine call_pure [] (sameR_ok (MR w A B gp (ry A gp A.length + gp) B.length) (MR w A B gp (ry A gp A.length + gp) B.length) (by rw [eN]; omega) (fun i hi => by have := (rl i (by rw [eN] at hi; exact hi)).1; omega)) rfl rfl rfl ?_ ?_ ?_
  ·and_intros<;>try first|exact trivial|exact rfl
  ·and_intros<;>try first|exact trivial|exact rfl
  intro v hv _
  rw [decide_eq_true (SR_refl (MR w A B gp (ry A gp A.length + gp) B.length) (fun i hi k hk => (rl i (by rw [eN] at hi; exact hi)).2 k hk))] at hv
  subst hv
  intro _
  rfl
 have g := of_decide_eq_true (show decide ((i : Int) < ((PR w B gp B.length).length : Int)) = true from g)
 have hI : i < B.length := by omega
 have eR : rowR (PR w B gp B.length) i = prow w B gp i := PR_row w B gp B.length i hI
 have eRl : (rowR (PR w B gp B.length) i).length = (rowI B i).length := by rw [eR, prow_len]
 have hlw := (pB.2.2 i hI).1
 have hw64 := hS.1
 intro _
 refine loop2 tt_ok [22, 21] [7] 8 (fun k : Fin ((rowI B i).length + 1) => [(22, .int .i64 (k : Nat)), (21, .grw 7 (k : Nat))]) (fun k => [(7, .tarr KT 50 .grow (.recs (mrow w B gp (ry A gp A.length + gp) i k)))]) (fun k => (rowI B i).length - k) ⟨0, by omega⟩ ?_
 intro _
 refine ⟨⟨th [(7, none)] 8, rfl, rfl, rfl, rfl, rfl, rfl, ?_, ?_⟩, ?_⟩
 ·and_intros<;>try first|exact trivial|exact rfl
 ·and_intros<;>try first|exact trivial|exact rfl
 intro ⟨k, hk⟩
 intro _; refine ⟨show 0 ≤ (i : Int) ∧ (i : Int) < ((PR w B gp B.length).length : Int) by omega, ?_⟩
 intro _; refine ⟨fun g => ?_, fun g => ?_⟩
 rotate_left
 ·have g := of_decide_eq_false (show decide ((k : Int) < ((rowR (PR w B gp B.length) i).length : Int)) = false from g)
  rw [eRl] at g
  have : k = (rowI B i).length := by omega
  subst this
  have eM := brow_len (tab w.length (st w gp)) w (rtop B gp i + (ry A gp A.length + gp)) (rh B i) (rowI B i).length
  have eM : (mrow w B gp (ry A gp A.length + gp) i (rowI B i).length).length = (rowI B i).length := eM
  have eN := MR_len w A B gp (ry A gp A.length + gp) i
  intro _
  refine ⟨rfl, eM.symm, ?_⟩
  intro _; refine ⟨rfl, rfl, ?_⟩
  intro _; refine ⟨fun g3 => by simp at g3, fun _ => ?_⟩
  refine ⟨⟨rfl, eN.symm, show A.length + i + 1 ≤ 4611686018427387904 by omega, show (A.length + i + 1) * 24 ≤ 140737488355328 by omega⟩, ?_⟩
  refine ⟨⟨i + 1, by omega⟩, by simp; omega, th [(6, some 9)] 7, rfl, rfl, rfl, rfl, rfl, rfl, ?_, ?_⟩
  ·and_intros<;>try first|exact trivial|exact rfl
   ·exact (wrap_nat i (by omega)).symm
  ·and_intros<;>try first|exact trivial|exact rfl
   exact MR_next w A B gp (ry A gp A.length + gp) i
 have g := of_decide_eq_true (show decide ((k : Int) < ((rowR (PR w B gp B.length) i).length : Int)) = true from g)
 have hkr : k < (rowI B i).length := by rw [eRl] at g; omega
 have hkw : k < w.length := by omega
 have ex : (rowR (PR w B gp B.length) i).getD k [] = bx (st w gp k) (rtop B gp i) (w.getD k 0) (rh B i) := by rw [eR]; exact prow_get w B gp i k hkr hkw
 intro _; refine ⟨show 0 ≤ (i : Int) ∧ (i : Int) < ((PR w B gp B.length).length : Int) by omega, ?_⟩
 intro _; refine ⟨show 0 ≤ (k : Int) ∧ (k : Int) < ((rowR (PR w B gp B.length) i).length : Int) by omega, ?_⟩
 intro _; refine ⟨rfl, rfl, ?_⟩
 intro _; refine ⟨rfl, rfl, ?_⟩
 intro _; refine ⟨fun g3 => by simp at g3, fun _ => ?_⟩
 refine ⟨⟨rfl, (brow_len (tab w.length (st w gp)) w (rtop B gp i + (ry A gp A.length + gp)) (rh B i) k).symm, show k + 1 ≤ 4611686018427387904 by omega, show (k + 1) * 72 ≤ 140737488355328 by omega⟩, ?_⟩
 refine ⟨⟨k + 1, by omega⟩, by simp; omega, th [(7, some 10)] 8, rfl, rfl, rfl, rfl, rfl, rfl, ?_, ?_⟩
 ·and_intros<;>try first|exact trivial|exact rfl
  exact (wrap_nat k (by omega)).symm
 ·and_intros<;>try first|exact trivial|exact rfl
  have e5 : mrow w B gp (ry A gp A.length + gp) i (k + 1) = mrow w B gp (ry A gp A.length + gp) i k ++ [[.n (fI ((rowR (PR w B gp B.length) i).getD k []) 0), .n (fI ((rowR (PR w B gp B.length) i).getD k []) 1), .n (IntKind.i64.wrap (fI ((rowR (PR w B gp B.length) i).getD k []) 2 + IntKind.i64.wrap (ry A gp A.length + gp))), .n (fI ((rowR (PR w B gp B.length) i).getD k []) 3), .n (fI ((rowR (PR w B gp B.length) i).getD k []) 4), .b (fB ((rowR (PR w B gp B.length) i).getD k [])), .seq (.recs (fL ((rowR (PR w B gp B.length) i).getD k [])))]] := by
   rw [ex]
   have b0 := ry_bd hg2 cB i (by omega)
   have b2 : 0 ≤ rtop B gp i ∧ rtop B gp i ≤ 1100000 * i + 100000 := by unfold rtop; split <;> omega
   have e6 : IntKind.i64.wrap (fI (bx (st w gp k) (rtop B gp i) (w.getD k 0) (rh B i)) 2 + IntKind.i64.wrap (ry A gp A.length + gp)) = rtop B gp i + (ry A gp A.length + gp) := by
    rw [eW]; exact wrapS _ ⟨by show _ ≤ rtop B gp i + _; omega, by show rtop B gp i + _ ≤ _; omega⟩
   rw [e6]
   unfold mrow
   rw [brow_next, tab_get hkw]
   rfl
  exact e5
theorem in_test (n b c : Int) (h : H) (K : V → H → Prop) (hK : K (.test (decide (b ≤ n ∧ n ≤ c))) h) : SemF Try.prog 35 [.int .i64 n, .int .i64 b, .int .i64 c] h K := by
 refine SemF.test ?_
 refine enter tt_ok Try.func35 (nt := 15) (cd := body Try.f35) rfl rfl rfl rfl ?_
 intro _; refine ⟨fun g => ?_, fun g => ?_⟩
 ·have g := of_decide_eq_true (show decide (b ≤ n) = true from g)
  intro _
  refine ⟨_, .inr rfl, ?_⟩
  have : decide (b ≤ n ∧ n ≤ c) = decide (n ≤ c) := by
   by_cases e : n ≤ c
   ·rw [decide_eq_true e, decide_eq_true (show b ≤ n ∧ n ≤ c from ⟨by omega, e⟩)]
   ·rw [decide_eq_false e, decide_eq_false (fun m => e m.2)]
  rw [← this]; exact hK
 ·have g := of_decide_eq_false (show decide (b ≤ n) = false from g)
  intro _
  refine ⟨false, .inl rfl, ?_⟩
  have : decide (b ≤ n ∧ n ≤ c) = false := decide_eq_false (fun m => by have := m.1; omega)
  rw [← this]; exact hK
def RSQ (w : List Int) (g : Int) : V → Go.Vm2.H → Prop := fun v h' => v = .tup [.grw 1 (sr w g).1.length, .int .i64 (sr w g).2] ∧ h' = ⟨2, 1, [(1, .arr [.int .i64] .grow (.ints (sr w g).1))]⟩
theorem tab_next (k : Nat) (f : Nat → Int) : tab (k + 1) f = tab k f ++ [f k] := rfl
set_option maxHeartbeats 4000000 in
theorem rstarts_ok (w : List Int) (gp : Int) (hl : w.length ≤ 9223372036854775807) : SemF Try.prog 30 [.slc 0 1 0 w.length, .int .i64 gp] ⟨1, 1, [(0, .arr [.int .i64] .rd (.ints w))]⟩ (RSQ w gp) := by
 refine SemF.ret ?_
 refine enter tt_ok Try.func30 (nt := 51) (cd := body Try.f30) rfl rfl rfl rfl ?_
 have bad : ¬ SOk w gp → ∀ nx hx, Nat.ble 1 nx = true → Ret 1 (RSQ w gp) (.tup [.nils, .int .i64 1]) ⟨nx, 1, hx⟩ := fun he nx hx hn => by
  have e : sr w gp = ([], 1) := by unfold sr; rw [if_neg he]
  refine ⟨[(1, none)], .tup [.grw 1 0, .int .i64 1], ⟨2, 1, [(1, .arr [.int .i64] .grow (.ints []))]⟩, rfl, rfl, rfl, rfl, ?_, ?_, ?_, ?_⟩
  ·and_intros<;>try first|exact trivial|exact rfl
  ·and_intros<;>try first|exact trivial|exact rfl
  ·rw [e]; rfl
  ·rw [e]
 intro _
 refine in_test _ _ _ _ _ ?_
 intro _; refine ⟨fun g => ?_, fun g => ?_⟩
 ·have g : (!decide (0 ≤ gp ∧ gp ≤ 100000)) = true := g
  rw [Bool.not_eq_true'] at g
  have g := of_decide_eq_false g
  intro _
  exact bad (fun h => g h.2.1) _ _ rfl
 have g : (!decide (0 ≤ gp ∧ gp ≤ 100000)) = false := g
 rw [Bool.not_eq_false'] at g
 have hg := of_decide_eq_true g
 intro _; refine ⟨fun g => ?_, fun g => ?_⟩
 ·have g1 := of_decide_eq_true (show decide ((w.length : Int) < 1) = true from g)
  intro _
  exact bad (fun h => by have := h.1.1; omega) _ _ rfl
 have n1 := of_decide_eq_false (show decide ((w.length : Int) < 1) = false from g)
 intro _; refine ⟨fun g => ?_, fun g => ?_⟩
 ·have g1 := of_decide_eq_true (show decide ((w.length : Int) > 64) = true from g)
  intro _
  exact bad (fun h => by have := h.1.2; omega) _ _ rfl
 have n2 := of_decide_eq_false (show decide ((w.length : Int) > 64) = false from g)
 intro _
 refine loop2 tt_ok [9, 7, 8] [1] 2 (fun k : { k : Nat // k ≤ w.length ∧ ∀ i, i < k → 0 ≤ w.getD i 0 ∧ w.getD i 0 ≤ 1000000 } => [(9, .int .i64 (k : Nat)), (7, .grw 1 (k : Nat)), (8, .int .i64 (st w gp k))]) (fun k => [(1, .arr [.int .i64] .grow (.ints (tab k (st w gp))))]) (fun k => w.length - k) ⟨0, by omega, fun i h => by omega⟩ ?_
 intro _
 refine ⟨⟨th [(1, none)] 2, rfl, rfl, rfl, rfl, rfl, rfl, ?_, ?_⟩, ?_⟩
 ·and_intros<;>try first|exact trivial|exact rfl
 ·and_intros<;>try first|exact trivial|exact rfl
 intro ⟨k, hk, hm⟩
 have z : 0 + k = k := Nat.zero_add k
 have b := st_bd hg k hm
 intro _; refine ⟨fun g => ?_, fun g => ?_⟩
 rotate_left
 ·have g := of_decide_eq_false (show decide ((k : Int) < (w.length : Int)) = false from g)
  have : k = w.length := by omega
  subst this
  have e : sr w gp = (tab w.length (st w gp), 0) := by unfold sr; rw [if_pos ⟨⟨by omega, by omega⟩, hg, hm⟩]
  intro _
  refine ⟨[(1, some 1)], .tup [.grw 1 (sr w gp).1.length, .int .i64 (sr w gp).2], ⟨2, 1, [(1, .arr [.int .i64] .grow (.ints (sr w gp).1))]⟩, rfl, rfl, rfl, rfl, ?_, ?_, ⟨rfl, rfl⟩⟩
  ·rw [e]
   and_intros<;>try first|exact trivial|exact rfl
   exact tab_len _ _
  ·rw [e]
   and_intros<;>try first|exact trivial|exact rfl
 have g := of_decide_eq_true (show decide ((k : Int) < (w.length : Int)) = true from g)
 intro _; refine ⟨show 0 ≤ (k : Int) ∧ (k : Int) < (w.length : Int) by omega, ?_⟩
 intro _; refine ⟨show 0 + (k : Int).toNat < w.length by omega, ?_⟩
 intro _
 refine in_test _ _ _ _ _ ?_
 intro _; refine ⟨fun g => ?_, fun g => ?_⟩
 ·have g : (!decide (0 ≤ w.getD (0 + k) 0 ∧ w.getD (0 + k) 0 ≤ 1000000)) = true := g
  rw [Bool.not_eq_true', z] at g
  have g := of_decide_eq_false g
  intro _
  exact bad (fun h => g (h.2.2 k (by omega))) _ _ rfl
 have g3 : (!decide (0 ≤ w.getD (0 + k) 0 ∧ w.getD (0 + k) 0 ≤ 1000000)) = false := g
 rw [Bool.not_eq_false', z] at g3
 have g3 := of_decide_eq_true g3
 intro _; refine ⟨rfl, ?_⟩
 intro _; refine ⟨fun g3 => by simp at g3, fun _ => ?_⟩
 refine ⟨⟨(tab_len k _).symm, show k + 1 ≤ 4611686018427387904 by omega, show (k + 1) * 8 ≤ 140737488355328 by omega⟩, ?_⟩
 intro _; refine ⟨show 0 ≤ (k : Int) ∧ (k : Int) < (w.length : Int) by omega, ?_⟩
 intro _; refine ⟨show 0 + (k : Int).toNat < w.length by omega, ?_⟩
 refine ⟨⟨k + 1, by omega, fun i hi' => ?_⟩, by simp; omega, th [(1, some 3)] 2, rfl, rfl, rfl, rfl, rfl, rfl, ?_, ?_⟩
 ·by_cases e : i = k
  ·subst e; exact g3
  ·exact hm i (by omega)
 ·and_intros<;>try first|exact trivial|exact rfl
  ·exact (wrap_nat k (by omega)).symm
  ·show st w gp k + (w.getD k 0 + gp) = IntKind.i64.wrap (IntKind.i64.wrap (st w gp k + w.getD (0 + k) 0) + gp)
   rw [z, wrapS (st w gp k + w.getD k 0) ⟨by omega, by omega⟩, wrapS _ ⟨by omega, by omega⟩]; omega
 ·and_intros<;>try first|exact trivial|exact rfl
theorem ry_bd' {H : Rows} {g : Int} (hg : 0 ≤ g ∧ g ≤ 100000) : ∀ {i : Nat}, (∀ j, j < i → ∀ k, k < (rowI H j).length → 0 ≤ (rowI H j).getD k 0 ∧ (rowI H j).getD k 0 ≤ 1000000) → 0 ≤ ry H g i ∧ ry H g i ≤ 1100000 * i
 | 0, _ => by simp [ry]
 | i + 1, hh => by
  have a := ry_bd' hg (i := i) (fun j h => hh j (by omega))
  have b := gr_bd (l := rowI H i) _ (hh i (by omega))
  have b : 0 ≤ rh H i ∧ rh H i ≤ 1000000 := b
  simp only [ry]
  split <;> omega
set_option maxHeartbeats 8000000 in
theorem rplace_ok (w : List Int) (H : Rows) (gp : Int) (hl : w.length ≤ 9223372036854775807) (hH : H.length ≤ 9223372036854775807) : SemF Try.prog 19 [.slc 0 1 0 w.length, .lst KT 24 (.recs H), .int .i64 gp] ⟨2, 2, [(0, .arr [.int .i64] .rd (.ints w)), (1, .tok)]⟩ (PQ w H gp) := by
 refine SemF.ret ?_
 refine SemF.frz ?_
 refine enter tt_ok Try.func19 (nt := 116) (cd := body Try.f19) rfl rfl rfl rfl ?_
 intro _
 refine call_new [(0, some 0)] (rstarts_ok w gp hl) rfl rfl rfl rfl ?_ ?_ ?_
 ·and_intros<;>try first|exact trivial|exact rfl
 ·and_intros<;>try first|exact trivial|exact rfl
 intro v h' hv
 obtain ⟨rfl, rfl⟩ := hv
 refine ⟨[(2, some 1)], 3, [(2, .arr [.int .i64] .grow (.ints (sr w gp).1))], .tup [.grw 2 (sr w gp).1.length, .int .i64 (sr w gp).2], rfl, rfl, rfl, rfl, rfl, ?_, ?_, ?_⟩
 ·and_intros<;>try first|exact trivial|exact rfl
 ·and_intros<;>try first|exact trivial|exact rfl
 have bad : ∀ e, pl w H gp = ([], 0, e) → ∀ nx hx, Nat.ble 2 nx = true → Ret 2 (PQ w H gp) (.tup [.nils, .int .i64 0, .int .i64 e]) ⟨nx, 2, hx⟩ := fun e he nx hx hn => by
  refine ⟨[], .tup [.lst KT 47 (.recs []), .int .i64 0, .int .i64 e], ⟨2, 2, []⟩, rfl, rfl, rfl, rfl, ?_, trivial, ?_⟩
  ·and_intros<;>try first|exact trivial|exact rfl
  ·show _ = _
   rw [he]
 have bad1 : ¬ POk w H gp → ∀ nx hx, Nat.ble 2 nx = true → Ret 2 (PQ w H gp) (.tup [.nils, .int .i64 0, .int .i64 1]) ⟨nx, 2, hx⟩ := fun he => bad 1 (by unfold pl; rw [if_neg he])
 intro _; refine ⟨fun g => ?_, fun g => ?_⟩
 ·have g : ((sr w gp).2 != 0) = true := g
  intro _
  refine .inr (bad1 (fun h => ?_) _ _ rfl)
  have : sr w gp = (tab w.length (st w gp), 0) := by unfold sr; rw [if_pos h.1]
  rw [this] at g; simp at g
 have g : ((sr w gp).2 != 0) = false := g
 have hS : SOk w gp := by
  by_cases e : SOk w gp
  ·exact e
  ·have : sr w gp = ([], 1) := by unfold sr; rw [if_neg e]
   rw [this] at g; simp at g
 have eS : sr w gp = (tab w.length (st w gp), 0) := by unfold sr; rw [if_pos hS]
 rw [eS]
 have hT := tab_len w.length (st w gp)
 have hg2 := hS.2.1
 have hw64 := hS.1
 intro _; refine ⟨fun g => ?_, fun g => ?_⟩
 ·have g := of_decide_eq_true (show decide ((H.length : Int) > 4000) = true from g)
  intro _
  exact .inr (bad1 (fun h => by have := h.2.1; omega) _ _ rfl)
 have n1 := of_decide_eq_false (show decide ((H.length : Int) > 4000) = false from g)
 intro _
 refine loop2 tt_ok [13, 11, 12] [3] 4 (fun i : PI w H => [(13, .int .i64 (i : Nat)), (11, .grw 3 (i : Nat)), (12, .int .i64 (rtop H gp i))]) (fun i => [(3, .tarr KT 47 .grow (.recs (PR w H gp i)))]) (fun i => H.length - i) ⟨0, by omega, fun i h => by omega⟩ ?_
 intro _
 refine ⟨⟨th [(3, none)] 4, rfl, rfl, rfl, rfl, rfl, rfl, ?_, ?_⟩, ?_⟩
 ·and_intros<;>try first|exact trivial|exact rfl
 ·and_intros<;>try first|exact trivial|exact rfl
 intro ⟨i, hi, him⟩
 intro _; refine ⟨fun g => ?_, fun g => ?_⟩
 rotate_left
 ·have g := of_decide_eq_false (show decide ((i : Int) < (H.length : Int)) = false from g)
  have : i = H.length := by omega
  subst this
  have hP : POk w H gp := ⟨hS, by omega, him⟩
  have b0 := ry_bd hS.2.1 (fun i (h : i < H.length) => (him i h).2) H.length (Nat.le_refl _)
  have fin : ∀ (y : Int), y = ry H gp H.length → y = ry H gp H.length := fun y e => e
  intro _; refine ⟨fun g => ?_, fun g => ?_⟩
  ·have g := of_decide_eq_true (show decide ((H.length : Int) > 0) = true from g)
   have eY : IntKind.i64.wrap (rtop H gp H.length - gp) = ry H gp H.length := by
    unfold rtop; rw [if_pos (by omega), wrapS _ ⟨by omega, by omega⟩]; omega
   intro _; refine ⟨fun g => ?_, fun g => ?_⟩
   ·have g := of_decide_eq_true (show decide (IntKind.i64.wrap (rtop H gp H.length - gp) > 1000000000) = true from g)
    rw [eY] at g
    intro _
    exact .inr (bad 3 (by unfold pl; rw [if_pos hP, if_pos g]) _ _ rfl)
   have g := of_decide_eq_false (show decide (IntKind.i64.wrap (rtop H gp H.length - gp) > 1000000000) = false from g)
   rw [eY] at g ⊢
   have e : pl w H gp = (PR w H gp H.length, ry H gp H.length, 0) := by unfold pl; rw [if_pos hP, if_neg g]
   intro _
   refine .inl ⟨3, H.length, KT, 47, .recs (PR w H gp H.length), .tup [.lst KT 47 (.recs (PR w H gp H.length)), .int .i64 (ry H gp H.length), .int .i64 0], _, (show 3 < 4 by omega), ⟨rfl, (PR_len w H gp H.length).symm, rfl, rfl⟩, ⟨⟨rfl, rfl, rfl, rfl⟩, rfl, rfl, trivial⟩, ⟨[], .tup [.lst KT 47 (.recs (PR w H gp H.length)), .int .i64 (ry H gp H.length), .int .i64 0], ⟨2, 2, []⟩, rfl, rfl, rfl, rfl, ⟨⟨rfl, rfl, rfl⟩, rfl, rfl, trivial⟩, trivial, by show _ = _; rw [e]⟩⟩
  have g := of_decide_eq_false (show decide ((H.length : Int) > 0) = false from g)
  have eY : rtop H gp H.length = ry H gp H.length := by
   unfold rtop; rw [if_neg (by omega)]; omega
  rw [eY]
  intro _; refine ⟨fun g => ?_, fun g => ?_⟩
  ·have g := of_decide_eq_true (show decide (ry H gp H.length > 1000000000) = true from g)
   intro _
   exact .inr (bad 3 (by unfold pl; rw [if_pos hP, if_pos g]) _ _ rfl)
  have g := of_decide_eq_false (show decide (ry H gp H.length > 1000000000) = false from g)
  have e : pl w H gp = (PR w H gp H.length, ry H gp H.length, 0) := by unfold pl; rw [if_pos hP, if_neg g]
  intro _
  refine .inl ⟨3, H.length, KT, 47, .recs (PR w H gp H.length), .tup [.lst KT 47 (.recs (PR w H gp H.length)), .int .i64 (ry H gp H.length), .int .i64 0], _, (show 3 < 4 by omega), ⟨rfl, (PR_len w H gp H.length).symm, rfl, rfl⟩, ⟨⟨rfl, rfl, rfl, rfl⟩, rfl, rfl, trivial⟩, ⟨[], .tup [.lst KT 47 (.recs (PR w H gp H.length)), .int .i64 (ry H gp H.length), .int .i64 0], ⟨2, 2, []⟩, rfl, rfl, rfl, rfl, ⟨⟨rfl, rfl, rfl⟩, rfl, rfl, trivial⟩, trivial, by show _ = _; rw [e]⟩⟩
 have gi := of_decide_eq_true (show decide ((i : Int) < (H.length : Int)) = true from g)
 intro _; refine ⟨show 0 ≤ (i : Int) ∧ (i : Int) < (H.length : Int) by omega, ?_⟩
 intro _; refine ⟨fun g => ?_, fun g => ?_⟩
 ·have g := of_decide_eq_true (show decide (((rowI H i).length : Int) > (w.length : Int)) = true from g)
  intro _
  exact .inr (bad1 (fun h => by have := (h.2.2 i (by omega)).1; omega) _ _ rfl)
 have g1 := of_decide_eq_false (show decide (((rowI H i).length : Int) > (w.length : Int)) = false from g)
 intro _
 refine loop2 tt_ok [15, 14] [] 4 (fun j : PJ (rowI H i) => [(15, .int .i64 (j : Nat)), (14, .int .i64 (gr 0 (rowI H i) j))]) (fun _ => []) (fun j => (rowI H i).length - j) ⟨0, by omega, fun i h => by omega⟩ ?_
 intro _
 refine ⟨⟨th [] 4, rfl, rfl, rfl, rfl, rfl, rfl, ?_, ?_⟩, ?_⟩
 ·and_intros<;>try first|exact trivial|exact rfl
 ·and_intros<;>try first|exact trivial|exact rfl
 intro ⟨j, hj, hjm⟩
 intro _; refine ⟨show 0 ≤ (i : Int) ∧ (i : Int) < (H.length : Int) by omega, ?_⟩
 intro _; refine ⟨fun g => ?_, fun g => ?_⟩
 ·have gj := of_decide_eq_true (show decide ((j : Int) < ((rowI H i).length : Int)) = true from g)
  intro _; refine ⟨show 0 ≤ (i : Int) ∧ (i : Int) < (H.length : Int) by omega, ?_⟩
  intro _; refine ⟨show 0 ≤ (j : Int) ∧ (j : Int) < ((rowI H i).length : Int) by omega, ?_⟩
  intro _
  refine rlen_test _ _ _ ?_
  intro _; refine ⟨fun g => ?_, fun g => ?_⟩
  ·have g : (!decide (0 ≤ (rowI H i).getD j 0 ∧ (rowI H i).getD j 0 ≤ 1000000)) = true := g
   rw [Bool.not_eq_true'] at g
   have g := of_decide_eq_false g
   intro _
   exact .inr (bad1 (fun h => g ((h.2.2 i (by omega)).2 j (by omega))) _ _ rfl)
  have g : (!decide (0 ≤ (rowI H i).getD j 0 ∧ (rowI H i).getD j 0 ≤ 1000000)) = false := g
  rw [Bool.not_eq_false'] at g
  have g := of_decide_eq_true g
  intro _; refine ⟨show 0 ≤ (i : Int) ∧ (i : Int) < (H.length : Int) by omega, ?_⟩
  intro _; refine ⟨show 0 ≤ (j : Int) ∧ (j : Int) < ((rowI H i).length : Int) by omega, ?_⟩
  refine ⟨⟨j + 1, by omega, fun k hk => ?_⟩, by simp; omega, th [] 4, rfl, rfl, rfl, rfl, rfl, rfl, ?_, ?_⟩
  ·by_cases e : k = j
   ·subst e; exact g
   ·exact hjm k (by omega)
  ·and_intros<;>try first|exact trivial|exact rfl
   exact (wrap_nat j (by omega)).symm
  ·and_intros<;>try first|exact trivial|exact rfl
 have g := of_decide_eq_false (show decide ((j : Int) < ((rowI H i).length : Int)) = false from g)
 have : j = (rowI H i).length := by omega
 subst this
 intro _
 refine loop2 tt_ok [18, 17] [4] 5 (fun k : Fin ((rowI H i).length + 1) => [(18, .int .i64 (k : Nat)), (17, .grw 4 (k : Nat))]) (fun k => [(4, .tarr KT 50 .grow (.recs (brow (tab w.length (st w gp)) w (rtop H gp i) (rh H i) k)))]) (fun k => (rowI H i).length - k) ⟨0, by omega⟩ ?_
 intro _
 refine ⟨⟨th [(4, none)] 5, rfl, rfl, rfl, rfl, rfl, rfl, ?_, ?_⟩, ?_⟩
 ·and_intros<;>try first|exact trivial|exact rfl
 ·and_intros<;>try first|exact trivial|exact rfl
 intro ⟨k, hk⟩
 have z : 0 + k = k := Nat.zero_add k
 intro _; refine ⟨show 0 ≤ (i : Int) ∧ (i : Int) < (H.length : Int) by omega, ?_⟩
 intro _; refine ⟨fun g => ?_, fun g => ?_⟩
 ·have gk := of_decide_eq_true (show decide ((k : Int) < ((rowI H i).length : Int)) = true from g)
  intro _; refine ⟨show 0 ≤ (k : Int) ∧ (k : Int) < ((tab w.length (st w gp)).length : Int) by omega, ?_⟩
  intro _; refine ⟨show (k : Int).toNat < (tab w.length (st w gp)).length by omega, ?_⟩
  intro _; refine ⟨show 0 ≤ (k : Int) ∧ (k : Int) < (w.length : Int) by omega, ?_⟩
  intro _; refine ⟨show 0 + (k : Int).toNat < w.length by omega, ?_⟩
  intro _
  intro _; refine Or.inr ?_
  intro _; refine ⟨rfl, rfl, ?_⟩
  intro _; refine ⟨fun g3 => by simp at g3, fun _ => ?_⟩
  refine ⟨⟨rfl, (brow_len (tab w.length (st w gp)) w (rtop H gp i) (rh H i) k).symm, show k + 1 ≤ 4611686018427387904 by omega, show (k + 1) * 72 ≤ 140737488355328 by omega⟩, ?_⟩
  intro _; refine ⟨by kernel_rfl, ?_⟩
  refine ⟨⟨k + 1, by omega⟩, by simp; omega, th [(4, some 6)] 5, rfl, rfl, rfl, rfl, rfl, rfl, ?_, ?_⟩
  ·and_intros<;>try first|exact trivial|exact rfl
   exact (wrap_nat k (by omega)).symm
  ·and_intros<;>try first|exact trivial|exact rfl
   show brow (tab w.length (st w gp)) w (rtop H gp i) (rh H i) (k + 1) = brow (tab w.length (st w gp)) w (rtop H gp i) (rh H i) k ++ [bx ((tab w.length (st w gp)).getD k 0) (rtop H gp i) (w.getD (0 + k) 0) (rh H i)]
   rw [z, brow_next]
 have g := of_decide_eq_false (show decide ((k : Int) < ((rowI H i).length : Int)) = false from g)
 have : k = (rowI H i).length := by omega
 subst this
 have hcel : ∀ j, j ≤ i → j < H.length → ∀ k, k < (rowI H j).length → 0 ≤ (rowI H j).getD k 0 ∧ (rowI H j).getD k 0 ≤ 1000000 := fun j h _ => by
  by_cases e : j = i
  ·subst e; exact hjm
  ·exact (him j (by omega)).2
 have b0 := ry_bd' hg2 (i := i) (fun j h => hcel j (by omega) (by omega))
 have b1 := gr_bd (l := rowI H i) _ hjm
 have b1 : 0 ≤ rh H i ∧ rh H i ≤ 1000000 := b1
 have b2 : 0 ≤ rtop H gp i ∧ rtop H gp i ≤ 1100000 * i + 100000 := by unfold rtop; split <;> omega
 have eT : rtop H gp (i + 1) = rtop H gp i + rh H i + gp := by
  unfold rtop; rw [if_pos (by omega)]; simp only [ry]
 intro _
 refine ⟨rfl, (brow_len (tab w.length (st w gp)) w (rtop H gp i) (rh H i) (rowI H i).length).symm, ?_⟩
 intro _; refine ⟨rfl, rfl, ?_⟩
 intro _; refine ⟨fun g3 => by simp at g3, fun _ => ?_⟩
 refine ⟨⟨rfl, (PR_len w H gp i).symm, show i + 1 ≤ 4611686018427387904 by omega, show (i + 1) * 24 ≤ 140737488355328 by omega⟩, ?_⟩
 refine ⟨⟨i + 1, by omega, fun j hj => ?_⟩, by simp; omega, th [(3, some 6)] 4, rfl, rfl, rfl, rfl, rfl, rfl, ?_, ?_⟩
 ·by_cases e : j = i
  ·subst e; exact ⟨by omega, hjm⟩
  ·exact him j (by omega)
 ·and_intros<;>try first|exact trivial|exact rfl
  ·exact (wrap_nat i (by omega)).symm
  ·have e5 : rtop H gp (i + 1) = IntKind.i64.wrap (IntKind.i64.wrap (rtop H gp i + rh H i) + gp) := by
    rw [eT, wrapS (rtop H gp i + rh H i) ⟨by omega, by omega⟩, wrapS _ ⟨by omega, by omega⟩]
   exact e5
 ·and_intros<;>try first|exact trivial|exact rfl
  exact PR_next w H gp i
def NB (L : Rows) (c m j : Nat) : Rows := (List.range c).map (nrow L m j)
theorem NB_len (L : Rows) (c m j : Nat) : (NB L c m j).length = c := by simp [NB]
theorem NB_get (L : Rows) (c m j k : Nat) (h : k < c) : (NB L c m j).getD k [] = nrow L m j k := by
 unfold NB
 simp only [List.getD_eq_getElem?_getD, List.getElem?_map, List.getElem?_range h]; rfl
theorem NB_next (L : Rows) (c m : Nat) : NB L c (m + 1) 0 = NB L c m (rowR L m).length := by
 unfold NB
 apply List.map_congr_left
 intro k hk
 unfold nrow
 rw [ac_zero, ac_zero, ac_end, ac_end]
theorem NB_set (L : Rows) (c m j : Nat) (h : j < c) (v : List D) (hv : v = nrow L m (j + 1) j) : (NB L c m j).set j v = NB L c m (j + 1) := by
 refine ext_rows (by simp [NB_len]) fun k hk => ?_
 rw [List.length_set, NB_len] at hk
 rw [NB_get L c m (j + 1) k hk, List.getD_eq_getElem?_getD, List.getElem?_set]
 by_cases e : j = k
 ·subst e
  rw [if_pos rfl, if_pos (by rw [NB_len]; exact h), hv]; rfl
 ·rw [if_neg e, ← List.getD_eq_getElem?_getD, NB_get L c m j k hk]
  unfold nrow ac
  by_cases e2 : k < j
  ·rw [if_pos e2, if_pos e2, if_pos (by omega), if_pos (by omega)]
  ·rw [if_neg e2, if_neg e2, if_neg (by omega), if_neg (by omega)]
def RNQ (L : Rows) : V → Go.Vm2.H → Prop := fun v h' => v = .tup [.grw 0 (nd L).1.length, .int .i64 (nd L).2] ∧ h' = ⟨1, 0, [(0, .arr [.int .i64, .int .i64] .own (.recs (nd L).1))]⟩
set_option maxHeartbeats 8000000 in
theorem rneeds_ok (L : Rows) (hl : L.length ≤ 9223372036854775807) : SemF Try.prog 13 [.lst KT 23 (.recs L)] ⟨0, 0, []⟩ (RNQ L) := by
 refine SemF.ret ?_
 refine enter tt_ok Try.func13 (nt := 110) (cd := body Try.f13) rfl rfl rfl rfl ?_
 have bad : ¬ NOk L → ∀ nx hx, Ret 0 (RNQ L) (.tup [.nils, .int .i64 1]) ⟨nx, 0, hx⟩ := fun he nx hx => by
  have e : nd L = ([], 1) := by unfold nd; rw [if_neg he]
  refine ⟨[(0, none)], .tup [.grw 0 0, .int .i64 1], ⟨1, 0, [(0, .arr [.int .i64, .int .i64] .own (.recs []))]⟩, rfl, rfl, rfl, rfl, ?_, ?_, ?_, ?_⟩
  ·and_intros<;>try first|exact trivial|exact rfl
  ·and_intros<;>try first|exact trivial|exact rfl
  ·rw [e]; rfl
  ·rw [e]
 intro _
 refine loop2 tt_ok [5, 4] [] 0 (fun m : NI L => [(5, .int .i64 (m : Nat)), (4, .int .i64 (cw L m))]) (fun _ => []) (fun m => L.length - m) ⟨0, by omega, fun i h => by omega⟩ ?_
 intro _
 refine ⟨⟨th [] 0, rfl, rfl, rfl, rfl, rfl, rfl, ?_, ?_⟩, ?_⟩
 ·and_intros<;>try first|exact trivial|exact rfl
 ·and_intros<;>try first|exact trivial|exact rfl
 intro ⟨m, hm, hmk⟩
 intro _; refine ⟨fun g => ?_, fun g => ?_⟩
 ·have gm := of_decide_eq_true (show decide ((m : Int) < (L.length : Int)) = true from g)
  intro _; refine ⟨show 0 ≤ (m : Int) ∧ (m : Int) < (L.length : Int) by omega, ?_⟩
  intro _; refine ⟨fun g => ?_, fun g => ?_⟩
  ·have g := of_decide_eq_true (show decide (((rowR L m).length : Int) > 64) = true from g)
   intro _
   exact bad (fun h => by have := (h.2.1 m (by omega)).1; omega) _ _
  have gr64 := of_decide_eq_false (show decide (((rowR L m).length : Int) > 64) = false from g)
  intro _; refine ⟨show 0 ≤ (m : Int) ∧ (m : Int) < (L.length : Int) by omega, ?_⟩
  intro _
  refine loop2 tt_ok [6] [] 0 (fun j : NJ (rowR L m) => [(6, .int .i64 (j : Nat))]) (fun _ => []) (fun j => (rowR L m).length - j) ⟨0, by omega, fun i h => by omega⟩ ?_
  intro _
  refine ⟨⟨th [] 0, rfl, rfl, rfl, rfl, rfl, rfl, ?_, ?_⟩, ?_⟩
  ·and_intros<;>try first|exact trivial|exact rfl
  ·and_intros<;>try first|exact trivial|exact rfl
  intro ⟨j, hj, hjk⟩
  intro _; refine ⟨show 0 ≤ (m : Int) ∧ (m : Int) < (L.length : Int) by omega, ?_⟩
  intro _; refine ⟨fun g => ?_, fun g => ?_⟩
  ·have gj := of_decide_eq_true (show decide ((j : Int) < ((rowR L m).length : Int)) = true from g)
   intro _; refine ⟨show 0 ≤ (m : Int) ∧ (m : Int) < (L.length : Int) by omega, ?_⟩
   intro _; refine ⟨show 0 ≤ (j : Int) ∧ (j : Int) < ((rowR L m).length : Int) by omega, ?_⟩
   intro _
   refine call_pure [] (rneed_ok (lo (rowR L m) j) (hi (rowR L m) j)) rfl rfl rfl ?_ ?_ ?_
   ·and_intros<;>try first|exact trivial|exact rfl
   ·and_intros<;>try first|exact trivial|exact rfl
   intro v hv _
   subst hv
   intro _; refine ⟨fun g => ?_, fun g => ?_⟩
   ·have g : (!decide (ND (lo (rowR L m) j) (hi (rowR L m) j))) = true := g
    rw [Bool.not_eq_true'] at g
    have g := of_decide_eq_false g
    intro _
    exact bad (fun h => g ((h.2.1 m (by omega)).2 j (by omega))) _ _
   have g : (!decide (ND (lo (rowR L m) j) (hi (rowR L m) j))) = false := g
   rw [Bool.not_eq_false'] at g
   have g := of_decide_eq_true g
   refine ⟨⟨j + 1, by omega, fun i hi' => ?_⟩, by simp; omega, th [] 0, rfl, rfl, rfl, rfl, rfl, rfl, ?_, ?_⟩
   ·by_cases e : i = j
    ·subst e; exact g
    ·exact hjk i (by omega)
   ·and_intros<;>try first|exact trivial|exact rfl
    exact (wrap_nat j (by omega)).symm
   ·and_intros<;>try first|exact trivial|exact rfl
  have g := of_decide_eq_false (show decide ((j : Int) < ((rowR L m).length : Int)) = false from g)
  have : j = (rowR L m).length := by omega
  subst this
  refine ⟨⟨m + 1, by omega, fun i hi' => ?_⟩, by simp; omega, th [] 0, rfl, rfl, rfl, rfl, rfl, rfl, ?_, ?_⟩
  ·by_cases e : i = m
   ·subst e; exact ⟨by omega, hjk⟩
   ·exact hmk i (by omega)
  ·and_intros<;>try first|exact trivial|exact rfl
   ·exact (wrap_nat m (by omega)).symm
   ·have e5 : ((cw L (m + 1) : Nat) : Int) = max (cw L m : Int) ((rowR L m).length : Int) := by simp only [cw]; omega
    exact e5
  ·and_intros<;>try first|exact trivial|exact rfl
 have g := of_decide_eq_false (show decide ((m : Int) < (L.length : Int)) = false from g)
 have : m = L.length := by omega
 subst this
 have c0 := cw_bd L L.length (fun i hi => (hmk i hi).1)
 intro _; refine ⟨fun g => ?_, fun g => ?_⟩
 ·have g := of_decide_eq_true (show decide ((L.length : Int) > 4000) = true from g)
  intro _
  exact bad (fun h => by have := h.1; omega) _ _
 have n1 := of_decide_eq_false (show decide ((L.length : Int) > 4000) = false from g)
 intro _; refine ⟨fun g => ?_, fun g => ?_⟩
 ·have g : ((cw L L.length : Int) == 0) = true := g
  have g : (cw L L.length : Int) = 0 := by simpa using g
  intro _
  exact bad (fun h => by have := h.2.2; omega) _ _
 have g : ((cw L L.length : Int) == 0) = false := g
 have g : ¬ (cw L L.length : Int) = 0 := by simpa using g
 have e : nd L = (NA L L.length 0, 0) := by unfold nd; rw [if_pos ⟨by omega, hmk, by omega⟩]
 have eNB : NB L (cw L L.length) L.length 0 = NA L L.length 0 := by unfold NB NA; rw [Nat.max_eq_left (Nat.zero_le _)]
 intro _
 refine ⟨⟨show 0 ≤ (cw L L.length : Int) by omega, show (cw L L.length : Int) < 9223372036854775808 by omega, show 16 * (cw L L.length : Int).toNat ≤ 140737488355328 by omega⟩, ?_⟩
 intro _
 refine loop2 tt_ok [9] [0] 1 (fun m : Fin (L.length + 1) => [(9, .int .i64 (m : Nat))]) (fun m => [(0, .arr [.int .i64, .int .i64] .own (.recs (NB L (cw L L.length) m 0)))]) (fun m => L.length - m) ⟨0, by omega⟩ ?_
 intro _
 refine ⟨⟨th [] 1, rfl, rfl, rfl, rfl, rfl, rfl, ?_, ?_⟩, ?_⟩
 ·and_intros<;>try first|exact trivial|exact rfl
 ·and_intros<;>try first|exact trivial|exact rfl
  have e5 : NB L (cw L L.length) 0 0 = List.replicate (cw L L.length : Int).toNat [.n 0, .n 0] := by
   rw [Int.toNat_natCast]
   refine ext_rows (by rw [NB_len, List.length_replicate]) fun k hk => ?_
   rw [NB_len] at hk
   rw [NB_get _ _ _ _ _ hk, List.getD_eq_getElem?_getD, List.getElem?_replicate, if_pos hk]
   rfl
  exact e5
 intro ⟨m, hm⟩
 intro _; refine ⟨fun g => ?_, fun g => ?_⟩
 rotate_left
 ·have g := of_decide_eq_false (show decide ((m : Int) < (L.length : Int)) = false from g)
  have : m = L.length := by omega
  subst this
  intro _
  refine ⟨[(0, some 0)], .tup [.grw 0 (nd L).1.length, .int .i64 (nd L).2], ⟨1, 0, [(0, .arr [.int .i64, .int .i64] .own (.recs (nd L).1))]⟩, rfl, rfl, rfl, rfl, ?_, ?_, ⟨rfl, rfl⟩⟩
  ·rw [e]
   and_intros<;>try first|exact trivial|exact rfl
   show (NA L L.length 0).length = (cw L L.length : Int).toNat
   rw [NA_len]; omega
  ·rw [e]
   and_intros<;>try first|exact trivial|exact rfl
   exact eNB.symm
 have gm := of_decide_eq_true (show decide ((m : Int) < (L.length : Int)) = true from g)
 have hrl := row_le (L := L) (i := m) (by omega)
 have hr64 := (hmk m (by omega)).1
 intro _
 refine loop2 tt_ok [10] [0] 1 (fun j : Fin ((rowR L m).length + 1) => [(10, .int .i64 (j : Nat))]) (fun j => [(0, .arr [.int .i64, .int .i64] .own (.recs (NB L (cw L L.length) m j)))]) (fun j => (rowR L m).length - j) ⟨0, by omega⟩ ?_
 intro _
 refine ⟨⟨th [] 1, rfl, rfl, rfl, rfl, rfl, rfl, ?_, ?_⟩, ?_⟩
 ·and_intros<;>try first|exact trivial|exact rfl
 ·and_intros<;>try first|exact trivial|exact rfl
 intro ⟨j, hj⟩
 intro _; refine ⟨show 0 ≤ (m : Int) ∧ (m : Int) < (L.length : Int) by omega, ?_⟩
 intro _; refine ⟨fun g => ?_, fun g => ?_⟩
 rotate_left
 ·have g := of_decide_eq_false (show decide ((j : Int) < ((rowR L m).length : Int)) = false from g)
  have : j = (rowR L m).length := by omega
  subst this
  refine ⟨⟨m + 1, by omega⟩, by simp; omega, th [] 1, rfl, rfl, rfl, rfl, rfl, rfl, ?_, ?_⟩
  ·and_intros<;>try first|exact trivial|exact rfl
   exact (wrap_nat m (by omega)).symm
  ·and_intros<;>try first|exact trivial|exact rfl
 have gj := of_decide_eq_true (show decide ((j : Int) < ((rowR L m).length : Int)) = true from g)
 have eB := NB_len L (cw L L.length) m j
 intro _; refine ⟨show 0 ≤ (j : Int) ∧ (j : Int) < ((cw L L.length : Int).toNat : Int) by omega, ?_⟩
 intro _; refine ⟨show (j : Int).toNat < (NB L (cw L L.length) m j).length by omega, ?_⟩
 intro _; refine ⟨show 0 ≤ (m : Int) ∧ (m : Int) < (L.length : Int) by omega, ?_⟩
 intro _; refine ⟨show 0 ≤ (j : Int) ∧ (j : Int) < ((rowR L m).length : Int) by omega, ?_⟩
 intro _; refine ⟨show 0 ≤ (j : Int) ∧ (j : Int) < ((cw L L.length : Int).toNat : Int) by omega, ?_⟩
 intro _; refine ⟨show (j : Int).toNat < (NB L (cw L L.length) m j).length by omega, ?_⟩
 intro _; refine ⟨by kernel_rfl, ?_⟩
 intro _; refine ⟨show 0 ≤ (j : Int) ∧ (j : Int) < ((cw L L.length : Int).toNat : Int) by omega, ?_⟩
 intro _; refine ⟨show (j : Int).toNat < (List.set (NB L (cw L L.length) m j) (j : Int).toNat _).length by rw [List.length_set]; omega, ?_⟩
 intro _; refine ⟨show 0 ≤ (m : Int) ∧ (m : Int) < (L.length : Int) by omega, ?_⟩
 intro _; refine ⟨show 0 ≤ (j : Int) ∧ (j : Int) < ((rowR L m).length : Int) by omega, ?_⟩
 intro _; refine ⟨show 0 ≤ (j : Int) ∧ (j : Int) < ((cw L L.length : Int).toNat : Int) by omega, ?_⟩
 intro _; refine ⟨show (j : Int).toNat < (List.set (NB L (cw L L.length) m j) (j : Int).toNat _).length by rw [List.length_set]; omega, ?_⟩
 intro _; refine ⟨by kernel_rfl, ?_⟩
 have s1 : ∀ r, ((NB L (cw L L.length) m j).set j r).getD j [] = r := fun r => by
  rw [List.getD_eq_getElem?_getD, List.getElem?_set, if_pos rfl, if_pos (by omega)]; rfl
 have hng := NB_get L (cw L L.length) m j j (by omega)
 refine ⟨⟨j + 1, by omega⟩, by simp; omega, th [] 1, rfl, rfl, rfl, rfl, rfl, rfl, ?_, ?_⟩
 ·and_intros<;>try first|exact trivial|exact rfl
  exact (wrap_nat j (by omega)).symm
 ·and_intros<;>try first|exact trivial|exact rfl
  have e5 : NB L (cw L L.length) m (j + 1) = List.set (List.set (NB L (cw L L.length) m j) j [.n (max (lo (NB L (cw L L.length) m j) j) (lo (rowR L m) j)), ((NB L (cw L L.length) m j).getD j []).getD 1 (.n 0)]) j [((List.set (NB L (cw L L.length) m j) j [.n (max (lo (NB L (cw L L.length) m j) j) (lo (rowR L m) j)), ((NB L (cw L L.length) m j).getD j []).getD 1 (.n 0)]).getD j []).getD 0 (.n 0), .n (max (hi (List.set (NB L (cw L L.length) m j) j [.n (max (lo (NB L (cw L L.length) m j) j) (lo (rowR L m) j)), ((NB L (cw L L.length) m j).getD j []).getD 1 (.n 0)]) j) (hi (rowR L m) j))] := by
   rw [List.set_set]
   refine (NB_set L (cw L L.length) m j (by omega) _ ?_).symm
   have eh : ∀ r : List D, hi ((NB L (cw L L.length) m j).set j r) j = (r.getD 1 (D.n 0)).int := fun r => congrArg (fun r : List D => (r.getD 1 (D.n 0)).int) (s1 r)
   rw [s1, eh]
   have el : lo (NB L (cw L L.length) m j) j = mxr lo L j m := by
    have : lo (NB L (cw L L.length) m j) j = ac lo L m j j := congrArg (fun r : List D => (r.getD 0 (D.n 0)).int) hng
    rw [this]; unfold ac; rw [if_neg (by omega)]
   have eu : hi (NB L (cw L L.length) m j) j = mxr hi L j m := by
    have : hi (NB L (cw L L.length) m j) j = ac hi L m j j := congrArg (fun r : List D => (r.getD 1 (D.n 0)).int) hng
    rw [this]; unfold ac; rw [if_neg (by omega)]
   show [D.n (max (lo (NB L (cw L L.length) m j) j) (lo (rowR L m) j)), D.n (max (hi (NB L (cw L L.length) m j) j) (hi (rowR L m) j))] = nrow L m (j + 1) j
   rw [el, eu]
   unfold nrow ac
   rw [if_pos (by omega), if_pos (by omega)]
  exact e5
set_option maxHeartbeats 8000000 in
theorem rwidths_ok (l : Rows) (s gp : Int) (hl : l.length ≤ 9223372036854775807) : SemF Try.prog 16 [.slc 0 2 0 l.length, .int .i64 s, .int .i64 gp] ⟨1, 1, [(0, .arr [.int .i64, .int .i64] .rd (.recs l))]⟩ (WQ l s gp) := by
 refine SemF.ret ?_
 refine enter tt_ok Try.func16 (nt := 139) (cd := body Try.f16) rfl rfl rfl rfl ?_
 have nil : ∀ e, wr l s gp = ([], e) → ∀ nx hx, Nat.ble 1 nx = true → Ret 1 (WQ l s gp) (.tup [.nils, .int .i64 e]) ⟨nx, 1, hx⟩ := fun e he nx hx hn => by
  refine ⟨[(1, none)], .tup [.grw 1 0, .int .i64 e], ⟨2, 1, [(1, .arr [.int .i64] .grow (.ints []))]⟩, rfl, rfl, rfl, rfl, ?_, ?_, ?_, ?_⟩
  ·and_intros<;>try first|exact trivial|exact rfl
  ·and_intros<;>try first|exact trivial|exact rfl
  ·rw [he]; rfl
  ·rw [he]
 have bad : ¬ WOk l s gp → ∀ nx hx, Nat.ble 1 nx = true → Ret 1 (WQ l s gp) (.tup [.nils, .int .i64 1]) ⟨nx, 1, hx⟩ := fun he => nil 1 (by unfold wr; rw [if_neg he])
 intro _
 refine rlen_test _ _ _ ?_
 intro _; refine ⟨fun g => ?_, fun g => ?_⟩
 ·have g : (!decide (0 ≤ s ∧ s ≤ 1000000)) = true := g
  rw [Bool.not_eq_true'] at g
  have g := of_decide_eq_false g
  intro _
  exact bad (fun h => g h.2.1) _ _ rfl
 have g : (!decide (0 ≤ s ∧ s ≤ 1000000)) = false := g
 rw [Bool.not_eq_false'] at g
 have hs := of_decide_eq_true g
 intro _; refine ⟨fun g => ?_, fun g => ?_⟩
 ·have g := of_decide_eq_true (show decide (gp < 0) = true from g)
  intro _
  exact bad (fun h => by have := h.2.2.1.1; omega) _ _ rfl
 have p1 := of_decide_eq_false (show decide (gp < 0) = false from g)
 intro _; refine ⟨fun g => ?_, fun g => ?_⟩
 ·have g := of_decide_eq_true (show decide (gp > 100000) = true from g)
  intro _
  exact bad (fun h => by have := h.2.2.1.2; omega) _ _ rfl
 have p2 := of_decide_eq_false (show decide (gp > 100000) = false from g)
 intro _; refine ⟨fun g => ?_, fun g => ?_⟩
 ·have g1 := of_decide_eq_true (show decide ((l.length : Int) < 1) = true from g)
  intro _
  exact bad (fun h => by have := h.1.1; omega) _ _ rfl
 have n1 := of_decide_eq_false (show decide ((l.length : Int) < 1) = false from g)
 intro _; refine ⟨fun g => ?_, fun g => ?_⟩
 ·have g1 := of_decide_eq_true (show decide ((l.length : Int) > 64) = true from g)
  intro _
  exact bad (fun h => by have := h.1.2; omega) _ _ rfl
 have n2 := of_decide_eq_false (show decide ((l.length : Int) > 64) = false from g)
 intro _
 refine loop2 tt_ok [11, 9, 10] [] 1 (fun k : { k : Nat // k ≤ l.length ∧ ∀ i, i < k → Nd l i } => [(11, .int .i64 (k : Nat)), (9, .int .i64 (sm (lo l) k)), (10, .int .i64 (sm (hi l) k))]) (fun _ => []) (fun k => l.length - k) ⟨0, by omega, fun i h => by omega⟩ ?_
 intro _
 refine ⟨⟨th [] 1, rfl, rfl, rfl, rfl, rfl, rfl, ?_, ?_⟩, ?_⟩
 ·and_intros<;>try first|exact trivial|exact rfl
 ·and_intros<;>try first|exact trivial|exact rfl
 intro ⟨k, hk, hmk⟩
 have z : 0 + k = k := Nat.zero_add k
 have bl := sm_bd (f := lo l) (n := k) (fun i hi => (hmk i hi).1) k (Nat.le_refl _)
 have bh := sm_bd (f := hi l) (n := k) (fun i hi => (hmk i hi).2.1) k (Nat.le_refl _)
 intro _; refine ⟨fun g => ?_, fun g => ?_⟩
 ·have hkl := of_decide_eq_true (show decide ((k : Int) < (l.length : Int)) = true from g)
  intro _; refine ⟨show 0 ≤ (k : Int) ∧ (k : Int) < (l.length : Int) by omega, ?_⟩
  intro _; refine ⟨show 0 + (k : Int).toNat < l.length by omega, ?_⟩
  intro _
  refine call_pure [] (rneed_ok (lo l (0 + k)) (hi l (0 + k))) rfl rfl rfl ?_ ?_ ?_
  ·and_intros<;>try first|exact trivial|exact rfl
  ·and_intros<;>try first|exact trivial|exact rfl
  intro v hv _
  subst hv
  intro _; refine ⟨fun g => ?_, fun g => ?_⟩
  ·have g : (!decide (ND (lo l (0 + k)) (hi l (0 + k)))) = true := g
   rw [z, Bool.not_eq_true'] at g
   have g := of_decide_eq_false g
   intro _
   exact bad (fun h => g (h.2.2.2 k (by omega))) _ _ rfl
  have g : (!decide (ND (lo l (0 + k)) (hi l (0 + k)))) = false := g
  rw [z, Bool.not_eq_false'] at g
  have g := of_decide_eq_true g
  have g0 := g.1
  have g1 := g.2.1
  intro _; refine ⟨show 0 ≤ (k : Int) ∧ (k : Int) < (l.length : Int) by omega, ?_⟩
  intro _; refine ⟨show 0 + (k : Int).toNat < l.length by omega, ?_⟩
  intro _; refine ⟨show 0 ≤ (k : Int) ∧ (k : Int) < (l.length : Int) by omega, ?_⟩
  intro _; refine ⟨show 0 + (k : Int).toNat < l.length by omega, ?_⟩
  refine ⟨⟨k + 1, by omega, nd_succ hmk g⟩, by simp; omega, th [] 1, rfl, rfl, rfl, rfl, rfl, rfl, ?_, ?_⟩
  ·and_intros<;>try first|exact trivial|exact rfl
   ·exact (wrap_nat k (by omega)).symm
   ·show sm (lo l) k + lo l k = IntKind.i64.wrap (sm (lo l) k + lo l (0 + k))
    rw [z, wrapS _ ⟨by omega, by omega⟩]
   ·show sm (hi l) k + hi l k = IntKind.i64.wrap (sm (hi l) k + hi l (0 + k))
    rw [z, wrapS _ ⟨by omega, by omega⟩]
  ·and_intros<;>try first|exact trivial|exact rfl
 have hkl := of_decide_eq_false (show decide ((k : Int) < (l.length : Int)) = false from g)
 have hkl : k = l.length := by omega
 subst hkl
 have hW : WOk l s gp := ⟨⟨by omega, by omega⟩, hs, ⟨by omega, by omega⟩, hmk⟩
 have gb := gap_bd hW
 have eL : IntKind.i64.wrap (s - IntKind.i64.wrap (gp * IntKind.i64.wrap ((l.length : Int) - 1))) = lft l s gp := by
  rw [wrapS ((l.length : Int) - 1) ⟨by omega, by omega⟩, wrapS (gp * ((l.length : Int) - 1)) ⟨by omega, by omega⟩, wrapS _ ⟨by omega, by omega⟩]
  rfl
 intro _; refine ⟨fun g => ?_, fun g => ?_⟩
 ·have g : decide (sm (lo l) l.length > IntKind.i64.wrap (s - IntKind.i64.wrap (gp * IntKind.i64.wrap ((l.length : Int) - 1)))) = true := g
  rw [eL] at g
  have g := of_decide_eq_true g
  intro _
  exact nil 22 (by unfold wr; rw [if_pos hW, if_pos g]) _ _ rfl
 have g : decide (sm (lo l) l.length > IntKind.i64.wrap (s - IntKind.i64.wrap (gp * IntKind.i64.wrap ((l.length : Int) - 1)))) = false := g
 rw [eL] at g
 have gf := of_decide_eq_false g
 have mb := mor_bd hW (by omega)
 have eM : IntKind.i64.wrap (min (IntKind.i64.wrap (s - IntKind.i64.wrap (gp * IntKind.i64.wrap ((l.length : Int) - 1)))) (sm (hi l) l.length) - sm (lo l) l.length) = mor l s gp := by
  rw [eL]; exact wrapS _ ⟨by unfold mor at mb; omega, by unfold mor at mb; omega⟩
 have eU : IntKind.i64.wrap (sm (hi l) l.length - sm (lo l) l.length) = suu l := wrapS _ ⟨by omega, by omega⟩
 intro _
 refine loop2 tt_ok [16, 13, 14, 15] [1] 2 (fun k : Fin (l.length + 1) => [(16, .int .i64 (k : Nat)), (13, .int .i64 (lft l s gp)), (14, .grw 1 (k : Nat)), (15, .int .i64 (dp l k))]) (fun k => [(1, .arr [.int .i64] .grow (.ints (tab (k : Nat) (wt (mor l s gp) (suu l) l))))]) (fun k => l.length - k) ⟨0, by omega⟩ ?_
 intro _
 refine ⟨⟨th [(1, none)] 2, rfl, rfl, rfl, rfl, rfl, rfl, ?_, ?_⟩, ?_⟩
 ·and_intros<;>try first|exact trivial|exact rfl
  all_goals exact eL.symm
 ·and_intros<;>try first|exact trivial|exact rfl
 intro ⟨k, hk⟩
 have z : 0 + k = k := Nat.zero_add k
 intro _; refine ⟨fun g => ?_, fun g => ?_⟩
 rotate_left
 ·have g := of_decide_eq_false (show decide ((k : Int) < (l.length : Int)) = false from g)
  have : k = l.length := by omega
  subst this
  have e : wr l s gp = (tab l.length (wt (mor l s gp) (suu l) l), 0) := by unfold wr; rw [if_pos hW, if_neg gf]
  intro _
  refine ⟨[(1, some 1)], .tup [.grw 1 (wr l s gp).1.length, .int .i64 (wr l s gp).2], ⟨2, 1, [(1, .arr [.int .i64] .grow (.ints (wr l s gp).1))]⟩, rfl, rfl, rfl, rfl, ?_, ?_, ⟨rfl, rfl⟩⟩
  ·rw [e]
   and_intros<;>try first|exact trivial|exact rfl
   exact tab_len _ _
  ·rw [e]
   and_intros<;>try first|exact trivial|exact rfl
 have gk := of_decide_eq_true (show decide ((k : Int) < (l.length : Int)) = true from g)
 have lb := lo_bd hW k (by omega)
 have hb := hi_bd hW k (by omega)
 have db := df_bd hW k (by omega)
 have d0 := dp_bd hW k (by omega)
 have d1 := dp_bd hW (k + 1) (by omega)
 have dN : dp l (k + 1) = dp l k + (hi l k - lo l k) := rfl
 have su := suu_dp l
 have dl := dp_bd hW l.length (Nat.le_refl _)
 intro _; refine ⟨show 0 ≤ (k : Int) ∧ (k : Int) < (l.length : Int) by omega, ?_⟩
 intro _; refine ⟨show 0 + (k : Int).toNat < l.length by omega, ?_⟩
 intro _; refine ⟨show 0 ≤ (k : Int) ∧ (k : Int) < (l.length : Int) by omega, ?_⟩
 intro _; refine ⟨show 0 + (k : Int).toNat < l.length by omega, ?_⟩
 intro _; refine ⟨by kernel_rfl, ?_⟩
 have eB : IntKind.i64.wrap (dp l k + IntKind.i64.wrap (hi l (0 + k) - lo l (0 + k))) = dp l (k + 1) := by
  rw [z, wrapS (hi l k - lo l k) ⟨by omega, by omega⟩, wrapS _ ⟨by omega, by omega⟩]; exact dN.symm
 intro _; refine ⟨fun g => ?_, fun g => ?_⟩
 ·have gh := of_decide_eq_true (show decide (sm (hi l) l.length ≤ lft l s gp) = true from g)
  intro _; refine ⟨show 0 ≤ (k : Int) ∧ (k : Int) < (l.length : Int) by omega, ?_⟩
  intro _; refine ⟨show 0 + (k : Int).toNat < l.length by omega, ?_⟩
  intro _; refine ⟨rfl, ?_⟩
  intro _; refine ⟨fun g3 => by simp at g3, fun _ => ?_⟩
  refine ⟨⟨(tab_len k _).symm, show k + 1 ≤ 4611686018427387904 by omega, show (k + 1) * 8 ≤ 140737488355328 by omega⟩, ?_⟩
  have eV : wt (mor l s gp) (suu l) l k = hi l (0 + k) := by
   have em : mor l s gp = suu l := by unfold mor suu; rw [Int.min_eq_right (by omega)]
   rw [z, em]
   unfold wt
   have mon := sm_mono (f := fun i => hi l i - lo l i) (n := l.length) (fun i hi => (df_bd hW i hi).1)
   have m1 : dp l (k + 1) ≤ dp l l.length := mon _ _ (Nat.le_refl _) (by omega)
   have m0 : dp l k ≤ dp l l.length := mon _ _ (Nat.le_refl _) (by omega)
   rw [en_full d0.1 (by omega) (by omega), en_full d1.1 (by omega) (by omega)]
   omega
  refine ⟨⟨k + 1, by omega⟩, by simp; omega, th [(1, some 3)] 2, rfl, rfl, rfl, rfl, rfl, rfl, ?_, ?_⟩
  ·and_intros<;>try first|exact trivial|exact rfl
   ·exact (wrap_nat k (by omega)).symm
   ·exact eB.symm
  ·and_intros<;>try first|exact trivial|exact rfl
   show tab k (wt (mor l s gp) (suu l) l) ++ [wt (mor l s gp) (suu l) l k] = tab k (wt (mor l s gp) (suu l) l) ++ [hi l (0 + k)]
   rw [eV]
 have gh := of_decide_eq_false (show decide (sm (hi l) l.length ≤ lft l s gp) = false from g)
 intro _; refine ⟨show 0 ≤ (k : Int) ∧ (k : Int) < (l.length : Int) by omega, ?_⟩
 intro _; refine ⟨show 0 + (k : Int).toNat < l.length by omega, ?_⟩
 have up : 0 < suu l := by unfold suu; omega
 have em : mor l s gp = lft l s gp - sm (lo l) l.length := by unfold mor; rw [Int.min_eq_left (by omega)]
 have eM2 : IntKind.i64.wrap (lft l s gp - sm (lo l) l.length) = mor l s gp := by rw [em]; exact wrapS _ ⟨by omega, by omega⟩
 have mm : ∀ d : Int, 0 ≤ d ∧ d ≤ 64000000 → 0 ≤ mor l s gp * d ∧ mor l s gp * d ≤ 64000000000000 := fun d hd => by
  refine ⟨Int.mul_nonneg mb.1 hd.1, ?_⟩
  have a1 : mor l s gp * d ≤ 1000000 * d := Int.mul_le_mul_of_nonneg_right mb.2.1 hd.1
  omega
 intro _; refine ⟨show IntKind.i64.wrap (sm (hi l) l.length - sm (lo l) l.length) ≠ 0 by rw [eU]; omega, ?_⟩
 intro _; refine ⟨show IntKind.i64.wrap (sm (hi l) l.length - sm (lo l) l.length) ≠ 0 by rw [eU]; omega, ?_⟩
 intro _; refine Or.inr ?_
 intro _; refine ⟨rfl, ?_⟩
 intro _; refine ⟨fun g3 => by simp at g3, fun _ => ?_⟩
 refine ⟨⟨(tab_len k _).symm, show k + 1 ≤ 4611686018427387904 by omega, show (k + 1) * 8 ≤ 140737488355328 by omega⟩, ?_⟩
 intro _; refine ⟨by kernel_rfl, ?_⟩
 have eE : ∀ d : Int, 0 ≤ d ∧ d ≤ 64000000 → IntKind.i64.wrap ((IntKind.i64.wrap (IntKind.i64.wrap (lft l s gp - sm (lo l) l.length) * d)).tdiv (IntKind.i64.wrap (sm (hi l) l.length - sm (lo l) l.length))) = (mor l s gp * d).tdiv (suu l) := fun d hd => by
  have m1 := mm d hd
  rw [eM2, eU, wrapS (mor l s gp * d) ⟨by omega, by omega⟩]
  have q : 0 ≤ (mor l s gp * d).tdiv (suu l) ∧ (mor l s gp * d).tdiv (suu l) ≤ 64000000000000 := by
   rw [Int.tdiv_eq_ediv_of_nonneg m1.1]
   exact ⟨Int.ediv_nonneg m1.1 (by omega), Int.le_trans (Int.ediv_le_self _ m1.1) m1.2⟩
  exact wrapS _ ⟨by omega, by omega⟩
 have q0 : en (mor l s gp) (suu l) l k = (mor l s gp * dp l k).tdiv (suu l) := by unfold en; rw [if_pos up]
 have q1 : en (mor l s gp) (suu l) l (k + 1) = (mor l s gp * dp l (k + 1)).tdiv (suu l) := by unfold en; rw [if_pos up]
 have mu : mor l s gp ≤ suu l := mb.2.2
 have c0 := en_bd mb.1 mu d0.1
 have c1 := en_bd mb.1 mu d1.1
 have eV : IntKind.i64.wrap (IntKind.i64.wrap (lo l (0 + k) + IntKind.i64.wrap ((IntKind.i64.wrap (IntKind.i64.wrap (lft l s gp - sm (lo l) l.length) * IntKind.i64.wrap (dp l k + IntKind.i64.wrap (hi l (0 + k) - lo l (0 + k))))).tdiv (IntKind.i64.wrap (sm (hi l) l.length - sm (lo l) l.length)))) - IntKind.i64.wrap ((IntKind.i64.wrap (IntKind.i64.wrap (lft l s gp - sm (lo l) l.length) * dp l k)).tdiv (IntKind.i64.wrap (sm (hi l) l.length - sm (lo l) l.length)))) = wt (mor l s gp) (suu l) l k := by
  rw [eB, eE _ d0, eE _ d1, ← q0, ← q1, z, wrapS (lo l k + en (mor l s gp) (suu l) l (k + 1)) ⟨by omega, by omega⟩]
  exact wrapS _ ⟨by omega, by omega⟩
 refine ⟨⟨k + 1, by omega⟩, by simp; omega, th [(1, some 3)] 2, rfl, rfl, rfl, rfl, rfl, rfl, ?_, ?_⟩
 ·and_intros<;>try first|exact trivial|exact rfl
  ·exact (wrap_nat k (by omega)).symm
  ·exact eB.symm
 ·and_intros<;>try first|exact trivial|exact rfl
  show tab k (wt (mor l s gp) (suu l) l) ++ [wt (mor l s gp) (suu l) l k] = _
  rw [← eV]
  rfl
theorem nd_len (L : Rows) : (nd L).1.length ≤ 64 := by
 unfold nd
 by_cases e : NOk L
 ·rw [if_pos e]
  have := cw_bd L L.length (fun i hi => (e.2.1 i hi).1)
  show (NA L L.length 0).length ≤ 64
  rw [NA_len]; omega
 ·rw [if_neg e]; simp
theorem wr_len (l : Rows) (s gp : Int) : (wr l s gp).1.length ≤ 64 := by
 unfold wr
 by_cases e : WOk l s gp
 ·rw [if_pos e]
  split
  ·simp
  ·show (tab l.length _).length ≤ 64
   rw [tab_len]; exact e.1.2
 ·rw [if_neg e]; simp
theorem pl_len (w : List Int) (H : Rows) (gp : Int) : (pl w H gp).1.length ≤ 4000 ∧ ∀ i, i < (pl w H gp).1.length → (rowR (pl w H gp).1 i).length ≤ 64 ∧ ∀ k, k < (rowR (pl w H gp).1 i).length → fL ((rowR (pl w H gp).1 i).getD k []) = [] := by
 by_cases g : ((pl w H gp).2.2 != 0) = false
 ·obtain ⟨e, _, e3⟩ := pl_ok g
  rw [e3]
  show (PR w H gp H.length).length ≤ 4000 ∧ ∀ i, i < (PR w H gp H.length).length → (rowR (PR w H gp H.length) i).length ≤ 64 ∧ ∀ k, k < (rowR (PR w H gp H.length) i).length → fL ((rowR (PR w H gp H.length) i).getD k []) = []
  rw [PR_len]
  refine ⟨e.2.1, fun i hi => ?_⟩
  rw [PR_row w H gp _ i hi, prow_len]
  have q := (e.2.2 i hi).1
  have := e.1.1
  refine ⟨by omega, fun k hk => ?_⟩
  rw [prow_get w H gp i k hk (by omega)]; rfl
 ·have e : (pl w H gp).1 = [] := by
   unfold pl at g ⊢
   by_cases e : POk w H gp
   ·rw [if_pos e] at g ⊢
    by_cases e2 : ry H gp H.length > 1000000000
    ·rw [if_pos e2]
    ·rw [if_neg e2] at g; simp at g
   ·rw [if_neg e]
  rw [e]
  exact ⟨by simp, fun i hi => by simp at hi⟩
theorem SN_refl (l : Rows) : SN l l := ⟨rfl, fun i h => ⟨rfl, rfl⟩⟩
open Classical in
set_option maxHeartbeats 8000000 in
theorem law3 (L q : Rows) (s gp : Int) (w : List Int) (H : Rows) (hL : L.length ≤ 9223372036854775807) (hq : q.length ≤ 9223372036854775807) (hl : w.length ≤ 9223372036854775807) (hH : H.length ≤ 9223372036854775807) (hw : ∀ i, i < w.length → -9223372036854775808 ≤ w.getD i 0 ∧ w.getD i 0 ≤ 9223372036854775807) : SemF Try.prog 3 [.lst KT 23 (.recs L), .slc 0 2 0 q.length, .int .i64 s, .int .i64 gp, .slc 1 1 0 w.length, .lst KT 24 (.recs H)] ⟨3, 2, [(0, .arr [.int .i64, .int .i64] .ro (.recs q)), (1, .arr [.int .i64] .ro (.ints w)), (2, .tok)]⟩ (fun v _ => IsTrue v) := by
 refine enter tt_ok Try.func3 (nt := 122) (cd := body Try.f3) rfl rfl rfl rfl ?_
 intro _
 refine call_pure [(0, some 2)] (hd_ok) rfl rfl rfl ?_ ?_ ?_
 ·and_intros<;>try first|exact trivial|exact rfl
 ·and_intros<;>try first|exact trivial|exact rfl
 intro v hv _
 subst hv
 intro _
 refine call_pure [] (few_ok L hL) rfl rfl rfl ?_ ?_ ?_
 ·and_intros<;>try first|exact trivial|exact rfl
 ·and_intros<;>try first|exact trivial|exact rfl
 intro v hv _
 subst hv
 intro _; refine ⟨fun g => ?_, fun g => ?_⟩
 ·intro _
  rfl
 intro _
 refine call_pure [] (fewI_ok H hH) rfl rfl rfl ?_ ?_ ?_
 ·and_intros<;>try first|exact trivial|exact rfl
 ·and_intros<;>try first|exact trivial|exact rfl
 intro v hv _
 subst hv
 intro _; refine ⟨fun g => ?_, fun g => ?_⟩
 ·intro _
  rfl
 intro _; refine ⟨fun g => ?_, fun g => ?_⟩
 ·intro _
  rfl
 intro _; refine ⟨fun g => ?_, fun g => ?_⟩
 ·intro _
  rfl
 have n1 := nd_len L
 have n2 := wr_len q s gp
 have n3 := pl_len w H gp
 intro _
 refine call_new [] (needs_ok L hL) rfl rfl rfl rfl ?_ ?_ ?_
 ·and_intros<;>try first|exact trivial|exact rfl
 ·and_intros<;>try first|exact trivial|exact rfl
 intro v h' hv
 obtain ⟨rfl, rfl⟩ := hv
 refine ⟨[(3, some 0)], 4, [(3, .arr K2 .grow (.recs (nd L).1))], .tup [.grw 3 (nd L).1.length, .int .i64 (nd L).2], rfl, rfl, rfl, rfl, rfl, ?_, ?_, ?_⟩
 ·and_intros<;>try first|exact trivial|exact rfl
 ·and_intros<;>try first|exact trivial|exact rfl
 intro _
 refine call_new [] (rneeds_ok L hL) rfl rfl rfl rfl ?_ ?_ ?_
 ·and_intros<;>try first|exact trivial|exact rfl
 ·and_intros<;>try first|exact trivial|exact rfl
 intro v h' hv
 obtain ⟨rfl, rfl⟩ := hv
 refine ⟨[(4, some 0)], 5, [(4, .arr K2 .own (.recs (nd L).1))], .tup [.grw 4 (nd L).1.length, .int .i64 (nd L).2], rfl, rfl, rfl, rfl, rfl, ?_, ?_, ?_⟩
 ·and_intros<;>try first|exact trivial|exact rfl
 ·and_intros<;>try first|exact trivial|exact rfl
 intro _; refine ⟨fun _ => ?_, fun g => absurd g (by decide)⟩
 intro _
 refine call_pure [(0, some 3), (1, some 4)] (sameN_ok (nd L).1 (nd L).1 (by omega)) rfl rfl rfl ?_ ?_ ?_
 ·and_intros<;>try first|exact trivial|exact rfl
 ·and_intros<;>try first|exact trivial|exact rfl
 intro v hv _
 rw [decide_eq_true (SN_refl (nd L).1)] at hv
 subst hv
 intro _; refine ⟨fun _ => ?_, fun g => absurd g (by decide)⟩
 intro _
 refine call_new [(0, some 0)] (widths_ok q s gp hq) rfl rfl rfl rfl ?_ ?_ ?_
 ·and_intros<;>try first|exact trivial|exact rfl
 ·and_intros<;>try first|exact trivial|exact rfl
 intro v h' hv
 obtain ⟨rfl, rfl⟩ := hv
 refine ⟨[(5, some 1)], 6, [(5, .arr K1 .grow (.ints (wr q s gp).1))], .tup [.grw 5 (wr q s gp).1.length, .int .i64 (wr q s gp).2], rfl, rfl, rfl, rfl, rfl, ?_, ?_, ?_⟩
 ·and_intros<;>try first|exact trivial|exact rfl
 ·and_intros<;>try first|exact trivial|exact rfl
 intro _
 refine call_new [(0, some 0)] (rwidths_ok q s gp hq) rfl rfl rfl rfl ?_ ?_ ?_
 ·and_intros<;>try first|exact trivial|exact rfl
 ·and_intros<;>try first|exact trivial|exact rfl
 intro v h' hv
 obtain ⟨rfl, rfl⟩ := hv
 refine ⟨[(6, some 1)], 7, [(6, .arr K1 .grow (.ints (wr q s gp).1))], .tup [.grw 6 (wr q s gp).1.length, .int .i64 (wr q s gp).2], rfl, rfl, rfl, rfl, rfl, ?_, ?_, ?_⟩
 ·and_intros<;>try first|exact trivial|exact rfl
 ·and_intros<;>try first|exact trivial|exact rfl
 intro _; refine ⟨fun _ => ?_, fun g => by have g : ((nd L).2 == (nd L).2) = false := g; simp at g⟩
 intro _
 refine call_pure [(0, some 5), (1, some 6)] (sameI_ok (wr q s gp).1 (wr q s gp).1 (by omega)) rfl rfl rfl ?_ ?_ ?_
 ·and_intros<;>try first|exact trivial|exact rfl
 ·and_intros<;>try first|exact trivial|exact rfl
 intro v hv _
 rw [decide_eq_true (si0 (wr q s gp).1)] at hv
 subst hv
 intro _; refine ⟨fun _ => ?_, fun g => absurd g (by decide)⟩
 intro _
 refine call_new [(0, some 1), (1, some 2)] (place_ok w H gp hl hH hw) rfl rfl rfl rfl ?_ ?_ ?_
 ·and_intros<;>try first|exact trivial|exact rfl
 ·and_intros<;>try first|exact trivial|exact rfl
 intro v h' hv
 have hv : v = .tup [.lst KT 47 (.recs (pl w H gp).1), .int .i64 (pl w H gp).2.1, .int .i64 (pl w H gp).2.2] := hv
 subst hv
 refine ⟨[], 7, [], .tup [.lst KT 47 (.recs (pl w H gp).1), .int .i64 (pl w H gp).2.1, .int .i64 (pl w H gp).2.2], rfl, rfl, rfl, rfl, rfl, ?_, ?_, ?_⟩
 ·and_intros<;>try first|exact trivial|exact rfl
 ·and_intros<;>try first|exact trivial|exact rfl
 intro _
 refine call_new [(0, some 1), (1, some 2)] (rplace_ok w H gp hl hH) rfl rfl rfl rfl ?_ ?_ ?_
 ·and_intros<;>try first|exact trivial|exact rfl
 ·and_intros<;>try first|exact trivial|exact rfl
 intro v h' hv
 have hv : v = .tup [.lst KT 47 (.recs (pl w H gp).1), .int .i64 (pl w H gp).2.1, .int .i64 (pl w H gp).2.2] := hv
 subst hv
 refine ⟨[], 7, [], .tup [.lst KT 47 (.recs (pl w H gp).1), .int .i64 (pl w H gp).2.1, .int .i64 (pl w H gp).2.2], rfl, rfl, rfl, rfl, rfl, ?_, ?_, ?_⟩
 ·and_intros<;>try first|exact trivial|exact rfl
 ·and_intros<;>try first|exact trivial|exact rfl
 intro _; refine ⟨fun _ => ?_, fun g => by have g : ((wr q s gp).2 == (wr q s gp).2) = false := g; simp at g⟩
 intro _
 refine call_pure [] (sameR_ok (pl w H gp).1 (pl w H gp).1 (by omega) (fun i hi => by have := (n3.2 i hi).1; omega)) rfl rfl rfl ?_ ?_ ?_
 ·and_intros<;>try first|exact trivial|exact rfl
 ·and_intros<;>try first|exact trivial|exact rfl
 intro v hv _
 rw [decide_eq_true (SR_refl (pl w H gp).1 (fun i hi k hk => (n3.2 i hi).2 k hk))] at hv
 subst hv
 intro _; refine ⟨fun _ => ?_, fun g => absurd g (by decide)⟩
 intro _; refine ⟨fun _ => ?_, fun g => by have g : ((pl w H gp).2.1 == (pl w H gp).2.1) = false := g; simp at g⟩
 intro _
 show IsTrue (.test ((pl w H gp).2.2 == (pl w H gp).2.2))
 rw [beq_self_eq_true]; rfl
theorem deep_recs {κ : Kt} {e e2 : Nat} {a : AC} (hk : kindsK κ e = [.list e2]) (h : WfD κ (.list e) (.seq a)) : ∃ L, a = .recs L ∧ L.length ≤ maxLen ∧ ∀ i, i < L.length → ((L.getD i []).getD 0 (D.n 0)).ac.asR.length ≤ maxLen := by
 cases h with
 | flat _ _ h => exact h.elim
 | list _ _ h1 h2 h3 h4 =>
  cases a with
  | ints l => obtain ⟨k, hk2⟩ := h1; rw [hk] at hk2; cases hk2
  | recs L =>
   refine ⟨L, rfl, h2, fun i hi => ?_⟩
   have h5 := h4 i 0 (.list e2) hi (by rw [hk]; rfl)
   have h5 : WfD κ (.list e2) ((L.getD i []).getD 0 (D.n 0)) := h5
   generalize (L.getD i []).getD 0 (D.n 0) = x at h5
   cases h5 with
   | flat _ _ h => exact h.elim
   | list _ a' g1 g2 g3 g4 =>
    show a'.asR.length ≤ maxLen
    cases a' with
    | ints l => exact Nat.zero_le _
    | recs l => exact g2
theorem walk (w : World) (v_L : Value) (L : List (List Go.Vm2.D)) (bs_L : List Blk) (av_L : Go.Vm.AV) (hm_L : L.length ≤ maxLen) (hr_L : ∀ i, i < L.length → ((L.getD i []).getD 0 (D.n 0)).ac.asR.length ≤ maxLen) (hv_L : ∀ ρ, Agree ρ 2 bs_L → Go.Vm.conv ρ av_L = some v_L) (hl_L : ∀ ρ, Agree ρ 2 bs_L → ∀ b ∈ bs_L, b.lies ρ w) (hc_L : ∀ G, GAgree G 2 bs_L → CellD G (ktOf tt) (.list 23) (.seq (.recs L)) av_L) (v_q0 : Value) (s_q0 : Src) (q0 : List (List Go.Vm2.D)) (cap_q0 : Nat) (hk_q0 : s_q0.ks = [.int .i64, .int .i64]) (ha_q0 : s_q0.ac = .recs q0) (hs_q0 : s_q0.lies w) (hn_q0 : s_q0.at_ = none → q0.length = 0) (hc_q0 : q0.length ≤ cap_q0) (hv_q0 : v_q0 = s_q0.val cap_q0) (hm_q0 : q0.length ≤ maxLen) (w_q0 : ∀ n ∈ q0, rowWf [.int .i64, .int .i64] n) (s0 : Int) (w_s0 : (Lit.int .i64 s0).wf = true) (g0 : Int) (w_g0 : (Lit.int .i64 g0).wf = true) (v_ww : Value) (s_ww : Src) (ww : List Int) (cap_ww : Nat) (hk_ww : s_ww.ks = [.int .i64]) (ha_ww : s_ww.ac = .ints ww) (hs_ww : s_ww.lies w) (hn_ww : s_ww.at_ = none → ww.length = 0) (hc_ww : ww.length ≤ cap_ww) (hv_ww : v_ww = s_ww.val cap_ww) (hm_ww : ww.length ≤ maxLen) (w_ww : ∀ n ∈ ww, (Lit.int .i64 n).wf = true) (v_H : Value) (H : List (List Go.Vm2.D)) (bs_H : List Blk) (av_H : Go.Vm.AV) (hm_H : H.length ≤ maxLen) (hr_H : ∀ i, i < H.length → ((H.getD i []).getD 0 (D.n 0)).ac.asR.length ≤ maxLen) (hv_H : ∀ ρ, Agree ρ (2 + bs_L.length) bs_H → Go.Vm.conv ρ av_H = some v_H) (hl_H : ∀ ρ, Agree ρ (2 + bs_L.length) bs_H → ∀ b ∈ bs_H, b.lies ρ w) (hc_H : ∀ G, GAgree G (2 + bs_L.length) bs_H → CellD G (ktOf tt) (.list 24) (.seq (.recs H)) av_H) :
  Calls Try.prog 3 #[v_L, v_q0, .int .i64 s0, .int .i64 g0, v_ww, v_H] w fun e w' => e = .returned (.bool true) ∧ Below w.heap.size w w' := by
 obtain ⟨at_q0, ks_q0, ac_q0⟩ := s_q0
 simp only [] at hk_q0 ha_q0
 subst hk_q0 ha_q0
 have h_q0 : q0.length ≤ 9223372036854775807 := by unfold maxLen at hm_q0; omega
 obtain ⟨at_ww, ks_ww, ac_ww⟩ := s_ww
 simp only [] at hk_ww ha_ww
 subst hk_ww ha_ww
 have h_ww : ww.length ≤ 9223372036854775807 := by unfold maxLen at hm_ww; omega
 have h_L : L.length ≤ 9223372036854775807 := by unfold maxLen at hm_L; omega
 have r_L : ∀ i, i < L.length → ((L.getD i []).getD 0 (D.n 0)).ac.asR.length ≤ 9223372036854775807 := fun i hi => by have := hr_L i hi; unfold maxLen at this; omega
 have h_H : H.length ≤ 9223372036854775807 := by unfold maxLen at hm_H; omega
 have r_H : ∀ i, i < H.length → ((H.getD i []).getD 0 (D.n 0)).ac.asR.length ≤ 9223372036854775807 := fun i hi => by have := hr_H i hi; unfold maxLen at this; omega
 have b_s0 := w_s0
 simp [Lit.wf, IntKind.min, IntKind.max, IntKind.signed, IntKind.bits] at b_s0
 have b_g0 := w_g0
 simp [Lit.wf, IntKind.min, IntKind.max, IntKind.signed, IntKind.bits] at b_g0
 exact top_deep (by kernel_rfl) (by kernel_rfl) (l := [⟨at_q0, [.int .i64, .int .i64], .recs q0⟩, ⟨at_ww, [.int .i64], .ints ww⟩]) (bs := bs_L ++ bs_H) (args := [.lst (ktOf tt) 23 (.recs L), .slc 0 2 0 q0.length, .int .i64 s0, .int .i64 g0, .slc 1 1 0 ww.length, .lst (ktOf tt) 24 (.recs H)]) («as» := [av_L, Src.av 0 cap_q0 ⟨at_q0, [.int .i64, .int .i64], .recs q0⟩, .int .i64 s0, .int .i64 g0, Src.av 1 cap_ww ⟨at_ww, [.int .i64], .ints ww⟩, av_H]) (cargs := [v_L, v_q0, .int .i64 s0, .int .i64 g0, v_ww, v_H]) w
  (fun s h => by
   rcases List.mem_cons.1 h with e | h
   ·subst e; exact hs_q0
   ·rcases List.mem_cons.1 h with e | h
    ·subst e; exact hs_ww
    ·exact (List.not_mem_nil h).elim)
  (fun b hb => by
   rcases List.mem_append.1 hb with hb | hb
   ·exact hl_L _ (agreeD _ _).left b hb
   ·exact hl_H _ (agreeD _ _).right b hb)
  (Cvs.cons (show Cv _ _ (.lst (ktOf tt) 23 (.recs L)) av_L by simp only [Cv]; exact hc_L _ (gagreeD _ _).left) (Cvs.cons (src_cvD (src_cv (s := ⟨at_q0, [.int .i64, .int .i64], .recs q0⟩) rfl 2 hc_q0 hn_q0)) (Cvs.cons mk_int (Cvs.cons mk_int (Cvs.cons (src_cvD (src_cv (s := ⟨at_ww, [.int .i64], .ints ww⟩) rfl 1 hc_ww hn_ww)) (Cvs.cons (show Cv _ _ (.lst (ktOf tt) 24 (.recs H)) av_H by simp only [Cv]; exact hc_H _ (gagreeD _ _).right) Cvs.nil))))))
  (by simp only [Go.Vm.convs, Go.Vm.conv]; rw [hv_L _ (agreeD _ _).left, src_convD (j := 0) (s := ⟨at_q0, [.int .i64, .int .i64], .recs q0⟩) rfl, src_convD (j := 1) (s := ⟨at_ww, [.int .i64], .ints ww⟩) rfl, hv_H _ (agreeD _ _).right, hv_q0, hv_ww])
  (law3 L q0 s0 g0 ww H h_L h_q0 h_ww h_H (wf_bd w_ww))
set_option maxRecDepth 100000 in
theorem lifted (os : Os) (started : os.Started) (H : Type) (enc : TypeId × Value → H) :
  ReturnsInHanded {} Try.checked os 3 .any (Rows.tableMatchesReferenceSpec.pre6 enc Try.prog Try.f3 Rows.tableMatchesReferenceRow.domain false) (Rows.tableMatchesReferenceSpec.post enc Try.prog Try.f3 false true false false) := by
 refine returnsInHanded_of_change (C := Try.checked) own started (by kernel_rfl) Try.func3
  (ChangeSpec.witness6 (enc := enc) (C := Try.checked) false ⟨#[], #[.slice none 0 0, .slice none 0 0, .int .i64 0, .int .i64 0, .slice none 0 0, .slice none 0 0], []⟩ 8 (by kernel_rfl) (by kernel_rfl) (by kernel_rfl) (by kernel_rfl)) ?_
 intro W base args ds gs before hval0 hW hcnd _
 have hval : ∀ (j : Nat) t v, Try.f3.params[j]? = some t → args[j]? = some v → Value.okWide Try.prog W .any base t v := hval0
 have hW' := hW
 obtain ⟨p, q, hA0, hV, rfl, hfz, hnd⟩ := hW
 have hA : DataW.TrodAll enc Try.prog W 0 (fun _ => true) true Try.f3.params.toList args.toList ds p := hA0
 rw [Try.params3] at hA hval
 obtain ⟨v0, vs0, d0, ds0, p0, q0, hargs, rfl, rfl, h0, r0⟩ := trodAll_cons hA
 obtain ⟨v1, vs1, d1, ds1, p1, q1, rfl, rfl, rfl, h1, r1⟩ := trodAll_cons r0
 obtain ⟨v2, vs2, d2, ds2, p2, q2, rfl, rfl, rfl, h2, r2⟩ := trodAll_cons r1
 obtain ⟨v3, vs3, d3, ds3, p3, q3, rfl, rfl, rfl, h3, r3⟩ := trodAll_cons r2
 obtain ⟨v4, vs4, d4, ds4, p4, q4, rfl, rfl, rfl, h4, r4⟩ := trodAll_cons r3
 obtain ⟨v5, vs5, d5, ds5, p5, q5, rfl, rfl, rfl, h5, r5⟩ := trodAll_cons r4
 obtain ⟨rfl, rfl, rfl⟩ := trodAll_nil r5
 obtain rfl : args = #[v0, v1, v2, v3, v4, v5] := by cases args; simp_all
 obtain ⟨rfl, rfl⟩ := trodVars_none hV
 obtain ⟨fu_L, ht_L⟩ : ∃ fu, DataW.trod enc Try.prog W 0 (fun _ => true) true fu 22 [v0] = some (d0, p0) := by
  obtain ⟨ao, len, cap, e⟩ := okWide_slice Try.underlying22 (hval 0 22 v0 rfl rfl)
  obtain ⟨fu, ht⟩ := h0
  exact ⟨fu, by rw [e] at ht ⊢; exact ht⟩
 obtain ⟨a_L, bs_L, av_L, hw_L, hv_L, hl_L, hc_L⟩ := open_deep (κ := ktOf tt) (l := 4) (e := 23) (by kernel_rfl) ht_L 2
 obtain ⟨L, rfl, hm_L, hr_L⟩ := deep_recs (e2 := 29) (by kernel_rfl) hw_L
 have hlt0 : ∀ x ∈ p0, x.block < W.heap.size := fun x hx => by simpa using hW'.lt x (by simp [hx])
 obtain ⟨s_q0, q0, cap_q0, hk_q0, ha_q0, hs_q0, hn_q0, hc_q0, hv_q0, hm_q0, w_q0⟩ := Go.Vm2.open_recs (ks := [.int .i64, .int .i64]) Try.underlying23 Try.underlying29 (by kernel_rfl) (by simp) (by kernel_rfl) (hval 1 23 v1 rfl rfl) h1
 have hlt1 : ∀ x ∈ p1, x.block < W.heap.size := fun x hx => by simpa using hW'.lt x (by simp [hx])
 obtain ⟨s0, rfl, rfl, rfl, w_s0⟩ := open_int Try.underlying3 (hval 2 3 v2 rfl rfl) h2
 obtain ⟨g0, rfl, rfl, rfl, w_g0⟩ := open_int Try.underlying3 (hval 3 3 v3 rfl rfl) h3
 obtain ⟨s_ww, ww, cap_ww, hk_ww, ha_ww, hs_ww, hn_ww, hc_ww, hv_ww, hm_ww, w_ww⟩ := Go.Vm2.open_list Try.underlying24 Try.underlying3 (by kernel_rfl) (hval 4 24 v4 rfl rfl) h4
 have hlt4 : ∀ x ∈ p4, x.block < W.heap.size := fun x hx => by simpa using hW'.lt x (by simp [hx])
 obtain ⟨fu_H, ht_H⟩ : ∃ fu, DataW.trod enc Try.prog W 0 (fun _ => true) true fu 25 [v5] = some (d5, p5) := by
  obtain ⟨ao, len, cap, e⟩ := okWide_slice Try.underlying25 (hval 5 25 v5 rfl rfl)
  obtain ⟨fu, ht⟩ := h5
  exact ⟨fu, by rw [e] at ht ⊢; exact ht⟩
 obtain ⟨a_H, bs_H, av_H, hw_H, hv_H, hl_H, hc_H⟩ := open_deep (κ := ktOf tt) (l := 4) (e := 24) (by kernel_rfl) ht_H (2 + bs_L.length)
 obtain ⟨H, rfl, hm_H, hr_H⟩ := deep_recs (e2 := 3) (by kernel_rfl) hw_H
 have hlt5 : ∀ x ∈ p5, x.block < W.heap.size := fun x hx => by simpa using hW'.lt x (by simp [hx])
 clear hA0 hval0
 refine (walk W v0 L bs_L av_L hm_L hr_L hv_L hl_L hc_L v1 s_q0 q0 cap_q0 hk_q0 ha_q0 hs_q0 hn_q0 hc_q0 hv_q0 hm_q0 w_q0 s0 w_s0 g0 w_g0 v4 s_ww ww cap_ww hk_ww ha_ww hs_ww hn_ww hc_ww hv_ww hm_ww w_ww v5 H bs_H av_H hm_H hr_H hv_H hl_H hc_H).mono fun e W' ⟨he, hg⟩ => ?_
 subst he
 exact ⟨_, rfl, _, _, _, [], _, [], hW', trodAll_cons_mk (shut_bool Try.underlying4 _) trodAll_mk0, (trodAll_cons_mk (Below.trod laidOut (by kernel_rfl) (of_decide_eq_true (by kernel_rfl)) h0 hg hlt0) (trodAll_cons_mk (Below.trod laidOut (by kernel_rfl) (of_decide_eq_true (by kernel_rfl)) h1 hg hlt1) (trodAll_cons_mk (shut_int Try.underlying3 w_s0) (trodAll_cons_mk (shut_int Try.underlying3 w_g0) (trodAll_cons_mk (Below.trod laidOut (by kernel_rfl) (of_decide_eq_true (by kernel_rfl)) h4 hg hlt4) (trodAll_cons_mk (Below.trod laidOut (by kernel_rfl) (of_decide_eq_true (by kernel_rfl)) h5 hg hlt5) trodAll_mk0)))))), rfl, hg.frame _, fun h => by cases h⟩
theorem over : Rows.tableMatchesReferenceRow.holds Try.pinned (OpenSpec.ofChange Rows.tableMatchesReferenceSpec) :=
 OpenClaim.holds_of_wide 3 Try.f3 rfl rfl rfl rfl rfl rfl rfl ⟨rfl, rfl, rfl, rfl, rfl⟩ rfl rfl rfl rfl rfl (by kernel_rfl) Try.func3 (by kernel_rfl)
  (of_decide_eq_true (by kernel_rfl)) (by unfold Func.isWrapper; first | (rw [if_pos (by decide +kernel)]; kernel_rfl) | (rw [if_neg (by decide +kernel)]; exact ⟨rfl, rfl⟩))
  (fun os started H enc _ => lifted os started H enc)
theorem proved : Rows.TableMatchesReferenceSaid :=
 over
#print axioms proved
end Go.Proofs.Ytjljleemknmgoaa.tableMatchesReference
