/-
  TableWidths: whatever the arguments, the law returns true, and its arguments read as before. No conditions.
-/
import Derived.Test.YtckdkhdkcihpjaaRows
import Derived.Test.YtckdkhdkcihpjaaVwOpen2
import Derived.Test.YtckdkhdkcihpjaaVwRules6
import Derived.Test.YtckdkhdkcihpjaaVmSym
import Derived.WalkKit
import Derived.ProofKit
import Derived.OpenShut
import Derived.Carry
namespace Go.Proofs.Ytckdkhdkcihpjaa.tableWidths
open Go.ChangeShapes Go.WideShapes Go.ChangeAt Go.RowKit
open Go.Vm (Facts Val Sound)
open Go.Vm2
set_option linter.unusedVariables false
set_option linter.unusedSectionVars false

theorem own : ownKnob Try.prog.godebug = none := by kernel_rfl
theorem laidOut : laidOutB Try.prog = true := by kernel_rfl
def ts : List Nat := [37, 43, 3, 27, 39, 44, 60, 4, 58, 124]
def tt : Go.Vm2.TT := [
  (37, ⟨(.slice 43 2 16 [.int .i64, .int .i64]), false, 1, .nils, true⟩),
  (43, ⟨(.struct [⟨0, 1, false⟩, ⟨1, 1, false⟩]), true, 2, .agg [.int .i64 (0), .int .i64 (0)], true⟩),
  (3, ⟨(.int .i64), false, 1, .int .i64 (0), true⟩),
  (27, ⟨(.int .i64), false, 1, .int .i64 (0), true⟩),
  (39, ⟨(.slice 3 1 8 [.int .i64]), false, 1, .nils, true⟩),
  (44, ⟨(.int .u32), false, 1, .int .u32 (0), true⟩),
  (60, ⟨(.struct [⟨0, 1, false⟩, ⟨1, 1, false⟩, ⟨2, 1, false⟩, ⟨3, 1, false⟩, ⟨4, 1, false⟩, ⟨5, 1, false⟩, ⟨6, 1, false⟩]), true, 7, .agg [.int .i64 (0), .int .i64 (0), .int .i64 (0), .int .i64 (0), .int .i64 (0), .bool false, .nils], false⟩),
  (4, ⟨.bool, false, 1, .bool false, true⟩),
  (58, ⟨(.slice 124 5 48 [.str, .int .i64, .int .i64, .int .i64, .int .i64]), false, 1, .nils, true⟩),
  (124, ⟨(.struct [⟨0, 1, false⟩, ⟨1, 1, false⟩, ⟨2, 1, false⟩, ⟨3, 1, false⟩, ⟨4, 1, false⟩]), true, 5, .agg [.str [], .int .i64 (0), .int .i64 (0), .int .i64 (0), .int .i64 (0)], true⟩)]
theorem tt_mk : mkTT Try.prog ts = some tt := by kernel_rfl
theorem head (w : World) : Calls Try.prog 16 #[] w fun e w' => e = .returned (.bool true) ∧ Below w.heap.size w w' :=
  Go.Vm.head_run (by kernel_rfl) (by kernel_rfl) (n := 1000000) (by kernel_rfl) w
instance facts : Facts := ⟨[], [16], false⟩
instance val : Val := ⟨fun _ => 0⟩
instance sound : Sound := ⟨fun f hf => (List.not_mem_nil hf).elim⟩
theorem tt_ok : TTok Try.prog tt := ttok_mk tt_mk
def body (f : Func) : Code := match f.body with | some c => c | none => .skip
set_option maxRecDepth 100000
theorem wrap_nat (k : Nat) (h : k < 9223372036854775807) : IntKind.i64.wrap ((k : Int) + 1) = ((k + 1 : Nat) : Int) := by
  rw [IntKind.wrap_i64]; omega
theorem wrapS (n : Int) (h : -9000000000000000000 ≤ n ∧ n ≤ 9000000000000000000) : IntKind.i64.wrap n = n := by rw [IntKind.wrap_i64]; omega
abbrev K2 : List CK := [.int .i64, .int .i64]
abbrev K1 : List CK := [.int .i64]
abbrev Rows := List (List D)
def lo (l : Rows) (i : Nat) : Int := ((l.getD i []).getD 0 (D.n 0)).int
def hi (l : Rows) (i : Nat) : Int := ((l.getD i []).getD 1 (D.n 0)).int
def sm (f : Nat → Int) : Nat → Int
  | 0 => 0
  | k + 1 => sm f k + f k
def Nd (l : Rows) (i : Nat) : Prop := (0 ≤ lo l i ∧ lo l i ≤ 1000000) ∧ (0 ≤ hi l i ∧ hi l i ≤ 1000000) ∧ lo l i ≤ hi l i
def WOk (l : Rows) (s g : Int) : Prop := (1 ≤ l.length ∧ l.length ≤ 64) ∧ (0 ≤ s ∧ s ≤ 1000000) ∧ (0 ≤ g ∧ g ≤ 100000) ∧ ∀ i, i < l.length → Nd l i
instance decNd (l : Rows) (i : Nat) : Decidable (Nd l i) := inferInstanceAs (Decidable (_ ∧ _))
instance decWOk (l : Rows) (s g : Int) : Decidable (WOk l s g) := inferInstanceAs (Decidable (_ ∧ _))
def lft (l : Rows) (s g : Int) : Int := s - g * ((l.length : Int) - 1)
def dp (l : Rows) (k : Nat) : Int := sm (fun i => hi l i - lo l i) k
def mor (l : Rows) (s g : Int) : Int := min (lft l s g) (sm (hi l) l.length) - sm (lo l) l.length
def suu (l : Rows) : Int := sm (hi l) l.length - sm (lo l) l.length
def en (m u : Int) (l : Rows) (k : Nat) : Int := if 0 < u then (m * dp l k).tdiv u else 0
def wt (m u : Int) (l : Rows) (i : Nat) : Int := lo l i + en m u l (i + 1) - en m u l i
theorem dp_eq (l : Rows) : ∀ k, dp l k = sm (hi l) k - sm (lo l) k
  | 0 => rfl
  | k + 1 => by
    have := dp_eq l k
    simp only [dp, sm] at this ⊢
    omega
theorem sm_bd {f : Nat → Int} {n : Nat} (h : ∀ i, i < n → 0 ≤ f i ∧ f i ≤ 1000000) : ∀ k, k ≤ n → 0 ≤ sm f k ∧ sm f k ≤ 1000000 * k
  | 0, _ => by simp [sm]
  | k + 1, hk => by
    have h1 := sm_bd h k (by omega)
    have h2 := h k (by omega)
    simp only [sm]
    omega
theorem sm_mono {f : Nat → Int} {n : Nat} (h : ∀ i, i < n → 0 ≤ f i) : ∀ k j, j ≤ n → k ≤ j → sm f k ≤ sm f j
  | k, 0, _, h2 => by
    have : k = 0 := by omega
    subst this; exact Int.le_refl _
  | k, j + 1, h1, h2 => by
    by_cases e : k = j + 1
    · subst e; exact Int.le_refl _
    · have a := sm_mono h k j (by omega) (by omega)
      have b := h j (by omega)
      simp only [sm]; omega
section
variable {l : Rows} {s g : Int}
theorem lo_bd (h : WOk l s g) : ∀ i, i < l.length → 0 ≤ lo l i ∧ lo l i ≤ 1000000 := fun i hi => (h.2.2.2 i hi).1
theorem hi_bd (h : WOk l s g) : ∀ i, i < l.length → 0 ≤ hi l i ∧ hi l i ≤ 1000000 := fun i hi => (h.2.2.2 i hi).2.1
theorem df_bd (h : WOk l s g) : ∀ i, i < l.length → 0 ≤ hi l i - lo l i ∧ hi l i - lo l i ≤ 1000000 := fun i hi => by
  have := h.2.2.2 i hi
  have h1 := this.1
  have h2 := this.2.1
  have h3 := this.2.2
  omega
theorem dp_bd (h : WOk l s g) : ∀ k, k ≤ l.length → 0 ≤ dp l k ∧ dp l k ≤ 64000000 := fun k hk => by
  have := sm_bd (df_bd h) k hk
  have := h.1
  unfold dp
  omega
theorem gap_bd (h : WOk l s g) : 0 ≤ g * ((l.length : Int) - 1) ∧ g * ((l.length : Int) - 1) ≤ 6300000 := by
  have h1 := h.1
  have h2 := h.2.2.1
  refine ⟨Int.mul_nonneg h2.1 (by omega), ?_⟩
  have h3 : g * ((l.length : Int) - 1) ≤ 100000 * ((l.length : Int) - 1) := Int.mul_le_mul_of_nonneg_right h2.2 (by omega)
  omega
theorem suu_dp (l : Rows) : suu l = dp l l.length := by unfold suu; rw [dp_eq]
theorem mor_bd (h : WOk l s g) (hf : sm (lo l) l.length ≤ lft l s g) : 0 ≤ mor l s g ∧ mor l s g ≤ 1000000 ∧ mor l s g ≤ suu l := by
  have h1 := dp_bd h l.length (Nat.le_refl _)
  rw [dp_eq] at h1
  have h2 := gap_bd h
  have h3 := h.2.1
  have h4 := sm_bd (lo_bd h) l.length (Nat.le_refl _)
  unfold mor suu lft at *
  omega
end
theorem en_zero (m u : Int) (l : Rows) : en m u l 0 = 0 := by
  unfold en
  split
  · show (m * 0).tdiv u = 0
    rw [Int.mul_zero]; exact Int.zero_tdiv _
  · rfl
theorem en_ediv {m u : Int} {l : Rows} {k : Nat} (hm : 0 ≤ m) (hd : 0 ≤ dp l k) (hu : 0 < u) : en m u l k = m * dp l k / u := by
  unfold en
  rw [if_pos hu, Int.tdiv_eq_ediv_of_nonneg (Int.mul_nonneg hm hd)]
/-- one step of the ends -/
theorem en_step {m u : Int} {l : Rows} {k : Nat} (hm : 0 ≤ m) (hmu : m ≤ u) (hd : 0 ≤ dp l k) (hx : 0 ≤ hi l k - lo l k) : 0 ≤ en m u l k ∧ en m u l k ≤ en m u l (k + 1) ∧ en m u l (k + 1) - en m u l k ≤ hi l k - lo l k := by
  by_cases hu : 0 < u
  · have e2 : dp l (k + 1) = dp l k + (hi l k - lo l k) := rfl
    rw [en_ediv hm hd hu, en_ediv hm (by rw [e2]; omega) hu, e2, Int.mul_add]
    have a1 : 0 ≤ m * dp l k := Int.mul_nonneg hm hd
    have a2 : 0 ≤ m * (hi l k - lo l k) := Int.mul_nonneg hm hx
    have a3 : m * (hi l k - lo l k) ≤ u * (hi l k - lo l k) := Int.mul_le_mul_of_nonneg_right hmu hx
    refine ⟨Int.ediv_nonneg a1 (by omega), Int.ediv_le_ediv hu (by omega), ?_⟩
    have a4 : (m * dp l k + m * (hi l k - lo l k)) / u ≤ (m * dp l k + u * (hi l k - lo l k)) / u := Int.ediv_le_ediv hu (by omega)
    rw [Int.add_mul_ediv_left _ _ (by omega)] at a4
    omega
  · unfold en
    rw [if_neg hu, if_neg hu]
    omega
theorem en_bd {m u : Int} {l : Rows} {k : Nat} (hm : 0 ≤ m) (hmu : m ≤ u) (hd : 0 ≤ dp l k) : 0 ≤ en m u l k ∧ en m u l k ≤ dp l k := by
  by_cases hu : 0 < u
  · rw [en_ediv hm hd hu]
    refine ⟨Int.ediv_nonneg (Int.mul_nonneg hm hd) (by omega), ?_⟩
    have a3 : m * dp l k ≤ u * dp l k := Int.mul_le_mul_of_nonneg_right hmu hd
    have a4 : m * dp l k / u ≤ u * dp l k / u := Int.ediv_le_ediv hu a3
    rw [Int.mul_ediv_cancel_left _ (by omega)] at a4
    exact a4
  · unfold en
    rw [if_neg hu]
    exact ⟨Int.le_refl _, hd⟩
/-- with all that is wanted the ends are those of what is wanted -/
theorem en_full {u : Int} {l : Rows} {k : Nat} (hd : 0 ≤ dp l k) (hu0 : 0 ≤ u) (hdu : dp l k ≤ u) : en u u l k = dp l k := by
  by_cases hu : 0 < u
  · rw [en_ediv (by omega) hd hu, Int.mul_ediv_cancel_left _ (by omega)]
  · unfold en
    rw [if_neg hu]
    omega
theorem en_last {m u : Int} {l : Rows} {k : Nat} (hm : 0 ≤ m) (hmu : m ≤ u) (e : dp l k = u) (hd : 0 ≤ dp l k) : en m u l k = m := by
  by_cases hu : 0 < u
  · rw [en_ediv hm hd hu, e, Int.mul_ediv_cancel _ (by omega)]
  · unfold en
    rw [if_neg hu]
    omega
theorem en_more {m m' u : Int} {l : Rows} {k : Nat} (hm : 0 ≤ m) (h : m ≤ m') (hd : 0 ≤ dp l k) : en m u l k ≤ en m' u l k := by
  by_cases hu : 0 < u
  · rw [en_ediv hm hd hu, en_ediv (by omega) hd hu]
    exact Int.ediv_le_ediv hu (Int.mul_le_mul_of_nonneg_right h hd)
  · unfold en
    rw [if_neg hu, if_neg hu]
    exact Int.le_refl _
/-- the widths' sum -/
theorem wt_sum (m u : Int) (l : Rows) : ∀ k, sm (wt m u l) k = sm (lo l) k + en m u l k
  | 0 => by rw [en_zero]; rfl
  | k + 1 => by
    simp only [sm]
    rw [wt_sum m u l k]
    unfold wt
    omega
theorem len_test (n : Int) (h : H) (K : V → H → Prop) (hK : K (.test (decide (0 ≤ n ∧ n ≤ 1000000))) h) : SemF Try.prog 34 [.int .i64 n] h K := by
  refine SemF.test ?_
  refine enter tt_ok Try.func34 (nt := 9) (cd := body Try.f34) rfl rfl rfl rfl ?_
  intro _; refine ⟨fun g => ?_, fun g => ?_⟩
  · have g := of_decide_eq_true (show decide (n ≥ 0) = true from g)
    intro _
    refine ⟨_, .inr rfl, ?_⟩
    have : decide (0 ≤ n ∧ n ≤ 1000000) = decide (n ≤ 1000000) := by
      by_cases e : n ≤ 1000000
      · rw [decide_eq_true e, decide_eq_true (show 0 ≤ n ∧ n ≤ 1000000 from ⟨by omega, e⟩)]
      · rw [decide_eq_false e, decide_eq_false (fun m => e m.2)]
    rw [← this]; exact hK
  · have g := of_decide_eq_false (show decide (n ≥ 0) = false from g)
    intro _
    refine ⟨false, .inl rfl, ?_⟩
    have : decide (0 ≤ n ∧ n ≤ 1000000) = false := decide_eq_false (fun m => by have := m.1; omega)
    rw [← this]; exact hK
theorem rlen_test (n : Int) (h : H) (K : V → H → Prop) (hK : K (.test (decide (0 ≤ n ∧ n ≤ 1000000))) h) : SemF Try.prog 49 [.int .i64 n] h K := by
  refine SemF.test ?_
  refine enter tt_ok Try.func49 (nt := 9) (cd := body Try.f49) rfl rfl rfl rfl ?_
  intro _; refine ⟨fun g => ?_, fun g => ?_⟩
  · have g := of_decide_eq_true (show decide (n ≥ 0) = true from g)
    intro _
    refine ⟨_, .inr rfl, ?_⟩
    have : decide (0 ≤ n ∧ n ≤ 1000000) = decide (n ≤ 1000000) := by
      by_cases e : n ≤ 1000000
      · rw [decide_eq_true e, decide_eq_true (show 0 ≤ n ∧ n ≤ 1000000 from ⟨by omega, e⟩)]
      · rw [decide_eq_false e, decide_eq_false (fun m => e m.2)]
    rw [← this]; exact hK
  · have g := of_decide_eq_false (show decide (n ≥ 0) = false from g)
    intro _
    refine ⟨false, .inl rfl, ?_⟩
    have : decide (0 ≤ n ∧ n ≤ 1000000) = false := decide_eq_false (fun m => by have := m.1; omega)
    rw [← this]; exact hK
def ND (a b : Int) : Prop := (0 ≤ a ∧ a ≤ 1000000) ∧ (0 ≤ b ∧ b ≤ 1000000) ∧ a ≤ b
instance decND (a b : Int) : Decidable (ND a b) := inferInstanceAs (Decidable (_ ∧ _))
theorem need_ok (a b : Int) : SemF Try.prog 35 [.agg [.int .i64 a, .int .i64 b]] ⟨0, 0, []⟩ (fun v _ => v = .test (decide (ND a b)) ∧ nameless v = true) := by
  refine SemF.test ?_
  refine enter tt_ok Try.func35 (nt := 18) (cd := body Try.f35) rfl rfl rfl rfl ?_
  intro _
  refine len_test _ _ _ ?_
  intro _; refine ⟨fun g => ?_, fun g => ?_⟩
  rotate_left
  · have g := of_decide_eq_false (show decide (0 ≤ a ∧ a ≤ 1000000) = false from g)
    intro _
    exact ⟨false, .inl rfl, by rw [decide_eq_false (fun h : ND a b => g h.1)], rfl⟩
  have g1 := of_decide_eq_true (show decide (0 ≤ a ∧ a ≤ 1000000) = true from g)
  intro _
  refine len_test _ _ _ ?_
  intro _; refine ⟨fun g => ?_, fun g => ?_⟩
  rotate_left
  · have g := of_decide_eq_false (show decide (0 ≤ b ∧ b ≤ 1000000) = false from g)
    intro _
    exact ⟨false, .inl rfl, by rw [decide_eq_false (fun h : ND a b => g h.2.1)], rfl⟩
  have g2 := of_decide_eq_true (show decide (0 ≤ b ∧ b ≤ 1000000) = true from g)
  intro _
  refine ⟨_, .inr rfl, ?_, rfl⟩
  by_cases e : a ≤ b
  · rw [decide_eq_true e, decide_eq_true (show ND a b from ⟨g1, g2, e⟩)]
  · rw [decide_eq_false e, decide_eq_false (fun h : ND a b => e h.2.2)]
theorem rneed_ok (a b : Int) : SemF Try.prog 33 [.agg [.int .i64 a, .int .i64 b]] ⟨0, 0, []⟩ (fun v _ => v = .test (decide (ND a b)) ∧ nameless v = true) := by
  refine SemF.test ?_
  refine enter tt_ok Try.func33 (nt := 22) (cd := body Try.f33) rfl rfl rfl rfl ?_
  intro _
  refine rlen_test _ _ _ ?_
  intro _
  refine rlen_test _ _ _ ?_
  intro _; refine ⟨fun g => ?_, fun g => ?_⟩
  rotate_left
  · have g := of_decide_eq_false (show decide (0 ≤ a ∧ a ≤ 1000000) = false from g)
    intro _
    exact ⟨false, .inl rfl, by rw [decide_eq_false (fun h : ND a b => g h.1)], rfl⟩
  have g1 := of_decide_eq_true (show decide (0 ≤ a ∧ a ≤ 1000000) = true from g)
  intro _; refine ⟨fun g => ?_, fun g => ?_⟩
  rotate_left
  · have g := of_decide_eq_false (show decide (0 ≤ b ∧ b ≤ 1000000) = false from g)
    intro _
    exact ⟨false, .inl rfl, by rw [decide_eq_false (fun h : ND a b => g h.2.1)], rfl⟩
  have g2 := of_decide_eq_true (show decide (0 ≤ b ∧ b ≤ 1000000) = true from g)
  intro _
  refine ⟨_, .inr rfl, ?_, rfl⟩
  by_cases e : a ≤ b
  · rw [decide_eq_true e, decide_eq_true (show ND a b from ⟨g1, g2, e⟩)]
  · rw [decide_eq_false e, decide_eq_false (fun h : ND a b => e h.2.2)]
abbrev UIdx (l : Rows) := { k : Nat // k ≤ l.length ∧ k ≤ 80 ∧ ∀ i, i < k → Nd l i }
theorem nd_succ {l : Rows} {k : Nat} (hm : ∀ i, i < k → Nd l i) (h : Nd l k) : ∀ i, i < k + 1 → Nd l i := fun i hi => by
  by_cases e : i = k
  · subst e; exact h
  · exact hm i (by omega)
theorem usable_ok (l : Rows) (s gp : Int) (hl : l.length ≤ 9223372036854775807) : SemF Try.prog 17 [.slc 0 2 0 l.length, .int .i64 s, .int .i64 gp] ⟨1, 1, [(0, .arr [.int .i64, .int .i64] .rd (.recs l))]⟩ (fun v _ => v = .test (decide (WOk l s gp)) ∧ nameless v = true) := by
  refine SemF.test ?_
  refine enter tt_ok Try.func17 (nt := 48) (cd := body Try.f17) rfl rfl rfl rfl ?_
  intro _
  refine loop2 tt_ok [7] [] 1 (fun k : UIdx l => [(7, .int .i64 (k : Nat))]) (fun _ => []) (fun k => l.length - k) ⟨0, by omega, by omega, fun i h => by omega⟩ ?_
  intro _
  refine ⟨⟨th [] 1, rfl, rfl, rfl, rfl, rfl, rfl, ?_, ?_⟩, ?_⟩
  · (repeat' first | exact trivial | exact rfl | refine And.intro ?_ ?_)
  · (repeat' first | exact trivial | exact rfl | refine And.intro ?_ ?_)
  intro ⟨k, hk, hk80, hmk⟩
  have z : 0 + k = k := Nat.zero_add k
  have no : ∀ P : Prop, (WOk l s gp → P) → ¬ P → ∃ b, (V.bool false = .bool b ∨ V.bool false = .test b) ∧ V.test b = .test (decide (WOk l s gp)) ∧ nameless (V.test b) = true := fun P h1 h2 => ⟨false, .inl rfl, by rw [decide_eq_false (fun h => h2 (h1 h))], rfl⟩
  intro _; refine ⟨fun g => ?_, fun g => ?_⟩
  rotate_left
  · have hkl := of_decide_eq_false (show decide ((k : Int) < (l.length : Int)) = false from g)
    have hkl : k = l.length := by omega
    subst hkl
    intro _; refine ⟨fun g => ?_, fun g => ?_⟩
    rotate_left
    · have g := of_decide_eq_false (show decide ((l.length : Int) ≥ 1) = false from g)
      intro _
      exact no _ (fun h => h.1.1) (by omega)
    have g1 := of_decide_eq_true (show decide ((l.length : Int) ≥ 1) = true from g)
    intro _; refine ⟨fun g => ?_, fun g => ?_⟩
    rotate_left
    · have g := of_decide_eq_false (show decide ((l.length : Int) ≤ 64) = false from g)
      intro _
      exact no _ (fun h => h.1.2) (by omega)
    have g2 := of_decide_eq_true (show decide ((l.length : Int) ≤ 64) = true from g)
    intro _; refine ⟨fun g => ?_, fun g => ?_⟩
    rotate_left
    · have g := of_decide_eq_false (show decide (s ≥ 0) = false from g)
      intro _
      exact no _ (fun h => h.2.1.1) (by omega)
    have g3 := of_decide_eq_true (show decide (s ≥ 0) = true from g)
    intro _; refine ⟨fun g => ?_, fun g => ?_⟩
    rotate_left
    · have g := of_decide_eq_false (show decide (s ≤ 1000000) = false from g)
      intro _
      exact no _ (fun h => h.2.1.2) (by omega)
    have g4 := of_decide_eq_true (show decide (s ≤ 1000000) = true from g)
    intro _; refine ⟨fun g => ?_, fun g => ?_⟩
    rotate_left
    · have g := of_decide_eq_false (show decide (gp ≥ 0) = false from g)
      intro _
      exact no _ (fun h => h.2.2.1.1) (by omega)
    have g5 := of_decide_eq_true (show decide (gp ≥ 0) = true from g)
    intro _
    refine ⟨_, .inr rfl, ?_, rfl⟩
    by_cases e : gp ≤ 100000
    · rw [decide_eq_true e, decide_eq_true (show WOk l s gp from ⟨⟨by omega, by omega⟩, ⟨g3, g4⟩, ⟨g5, e⟩, hmk⟩)]
    · rw [decide_eq_false e, decide_eq_false (fun h : WOk l s gp => e h.2.2.1.2)]
  have hkl := of_decide_eq_true (show decide ((k : Int) < (l.length : Int)) = true from g)
  intro _; refine ⟨fun g => ?_, fun g => ?_⟩
  rotate_left
  · have hkl := of_decide_eq_false (show decide ((k : Int) < 80) = false from g)
    intro _; refine ⟨fun g => ?_, fun g => ?_⟩
    rotate_left
    · have g := of_decide_eq_false (show decide ((l.length : Int) ≥ 1) = false from g)
      omega
    intro _; refine ⟨fun g => ?_, fun g => ?_⟩
    rotate_left
    · have g := of_decide_eq_false (show decide ((l.length : Int) ≤ 64) = false from g)
      intro _
      exact no _ (fun h => h.1.2) (by omega)
    have g2 := of_decide_eq_true (show decide ((l.length : Int) ≤ 64) = true from g)
    omega
  have hk8 := of_decide_eq_true (show decide ((k : Int) < 80) = true from g)
  intro _; refine ⟨show 0 ≤ (k : Int) ∧ (k : Int) < (l.length : Int) by omega, ?_⟩
  intro _; refine ⟨show 0 + (k : Int).toNat < l.length by omega, ?_⟩
  intro _
  refine call_pure [] (rneed_ok (lo l (0 + k)) (hi l (0 + k))) rfl rfl rfl ?_ ?_ ?_
  · (repeat' first | exact trivial | exact rfl | refine And.intro ?_ ?_)
  · (repeat' first | exact trivial | exact rfl | refine And.intro ?_ ?_)
  intro v hv _
  subst hv
  intro _; refine ⟨fun g => ?_, fun g => ?_⟩
  · have g : (!decide (ND (lo l (0 + k)) (hi l (0 + k)))) = true := g
    rw [z, Bool.not_eq_true'] at g
    have g := of_decide_eq_false g
    intro _
    exact no _ (fun h => h.2.2.2 k (by omega)) g
  have g : (!decide (ND (lo l (0 + k)) (hi l (0 + k)))) = false := g
  rw [z, Bool.not_eq_false'] at g
  have g := of_decide_eq_true g
  refine ⟨⟨k + 1, by omega, by omega, nd_succ hmk g⟩, by simp; omega, th [] 1, rfl, rfl, rfl, rfl, rfl, rfl, ?_, ?_⟩
  · (repeat' first | exact trivial | exact rfl | refine And.intro ?_ ?_)
    exact (wrap_nat k (by omega)).symm
  · (repeat' first | exact trivial | exact rfl | refine And.intro ?_ ?_)
def tab : Nat → (Nat → Int) → List Int
  | 0, _ => []
  | k + 1, f => tab k f ++ [f k]
theorem tab_len (k : Nat) (f : Nat → Int) : (tab k f).length = k := by
  induction k with
  | zero => rfl
  | succ k ih => simp [tab, ih]
theorem tab_get {f : Nat → Int} {k i : Nat} (h : i < k) : (tab k f).getD i 0 = f i := by
  induction k with
  | zero => omega
  | succ k ih =>
    show (tab k f ++ [f k]).getD i 0 = f i
    by_cases e : i = k
    · subst e
      rw [List.getD_eq_getElem?_getD, List.getElem?_append_right (by rw [tab_len]; exact Nat.le_refl _), tab_len]
      simp
    · rw [List.getD_eq_getElem?_getD, List.getElem?_append_left (by rw [tab_len]; omega), ← List.getD_eq_getElem?_getD]
      exact ih (by omega)
def wr (l : Rows) (s gp : Int) : List Int × Int := if WOk l s gp then (if sm (lo l) l.length > lft l s gp then ([], 22) else (tab l.length (wt (mor l s gp) (suu l) l), 0)) else ([], 1)
def WQ (l : Rows) (s gp : Int) : V → Go.Vm2.H → Prop := fun v h' => v = .tup [.grw 1 (wr l s gp).1.length, .int .i64 (wr l s gp).2] ∧ h' = ⟨2, 1, [(1, .arr [.int .i64] .grow (.ints (wr l s gp).1))]⟩
set_option maxHeartbeats 4000000 in
theorem widths_ok (l : Rows) (s gp : Int) (hl : l.length ≤ 9223372036854775807) : SemF Try.prog 18 [.slc 0 2 0 l.length, .int .i64 s, .int .i64 gp] ⟨1, 1, [(0, .arr [.int .i64, .int .i64] .rd (.recs l))]⟩ (WQ l s gp) := by
  refine SemF.ret ?_
  refine enter tt_ok Try.func18 (nt := 82) (cd := body Try.f18) rfl rfl rfl rfl ?_
  have nil : ∀ e, wr l s gp = ([], e) → ∀ nx hx, Nat.ble 1 nx = true → Ret 1 (WQ l s gp) (.tup [.nils, .int .i64 e]) ⟨nx, 1, hx⟩ := fun e he nx hx hn => by
    refine ⟨[(1, none)], .tup [.grw 1 0, .int .i64 e], ⟨2, 1, [(1, .arr [.int .i64] .grow (.ints []))]⟩, rfl, rfl, rfl, rfl, ?_, ?_, ?_, ?_⟩
    · (repeat' first | exact trivial | exact rfl | refine And.intro ?_ ?_)
    · (repeat' first | exact trivial | exact rfl | refine And.intro ?_ ?_)
    · rw [he]; rfl
    · rw [he]
  have bad : ¬ WOk l s gp → ∀ nx hx, Nat.ble 1 nx = true → Ret 1 (WQ l s gp) (.tup [.nils, .int .i64 1]) ⟨nx, 1, hx⟩ := fun he => nil 1 (by unfold wr; rw [if_neg he])
  intro _; refine ⟨fun g => ?_, fun g => ?_⟩
  · have g1 := of_decide_eq_true (show decide ((l.length : Int) < 1) = true from g)
    intro _
    exact bad (fun h => by have := h.1.1; omega) _ _ rfl
  have n1 := of_decide_eq_false (show decide ((l.length : Int) < 1) = false from g)
  intro _; refine ⟨fun g => ?_, fun g => ?_⟩
  · have g1 := of_decide_eq_true (show decide ((l.length : Int) > 64) = true from g)
    intro _
    exact bad (fun h => by have := h.1.2; omega) _ _ rfl
  have n2 := of_decide_eq_false (show decide ((l.length : Int) > 64) = false from g)
  intro _
  refine len_test _ _ _ ?_
  intro _; refine ⟨fun g => ?_, fun g => ?_⟩
  · have g : (!decide (0 ≤ s ∧ s ≤ 1000000)) = true := g
    rw [Bool.not_eq_true'] at g
    have g := of_decide_eq_false g
    intro _
    exact bad (fun h => g h.2.1) _ _ rfl
  have g : (!decide (0 ≤ s ∧ s ≤ 1000000)) = false := g
  rw [Bool.not_eq_false'] at g
  have hs := of_decide_eq_true g
  intro _; refine ⟨fun g => ?_, fun g => ?_⟩
  · have g := of_decide_eq_true (show decide (gp < 0) = true from g)
    intro _
    exact bad (fun h => by have := h.2.2.1.1; omega) _ _ rfl
  have p1 := of_decide_eq_false (show decide (gp < 0) = false from g)
  intro _; refine ⟨fun g => ?_, fun g => ?_⟩
  · have g := of_decide_eq_true (show decide (gp > 100000) = true from g)
    intro _
    exact bad (fun h => by have := h.2.2.1.2; omega) _ _ rfl
  have p2 := of_decide_eq_false (show decide (gp > 100000) = false from g)
  intro _
  refine loop2 tt_ok [39, 8, 9] [] 1 (fun k : { k : Nat // k ≤ l.length ∧ ∀ i, i < k → Nd l i } => [(39, .int .i64 (k : Nat)), (8, .int .i64 (sm (lo l) k)), (9, .int .i64 (sm (hi l) k))]) (fun _ => []) (fun k => l.length - k) ⟨0, by omega, fun i h => by omega⟩ ?_
  intro _
  refine ⟨⟨th [] 1, rfl, rfl, rfl, rfl, rfl, rfl, ?_, ?_⟩, ?_⟩
  · (repeat' first | exact trivial | exact rfl | refine And.intro ?_ ?_)
  · (repeat' first | exact trivial | exact rfl | refine And.intro ?_ ?_)
  intro ⟨k, hk, hmk⟩
  have z : 0 + k = k := Nat.zero_add k
  have bl := sm_bd (f := lo l) (n := k) (fun i hi => (hmk i hi).1) k (Nat.le_refl _)
  have bh := sm_bd (f := hi l) (n := k) (fun i hi => (hmk i hi).2.1) k (Nat.le_refl _)
  intro _; refine ⟨fun g => ?_, fun g => ?_⟩
  · have hkl := of_decide_eq_true (show decide ((k : Int) < (l.length : Int)) = true from g)
    intro _; refine ⟨show 0 ≤ (k : Int) ∧ (k : Int) < (l.length : Int) by omega, ?_⟩
    intro _; refine ⟨show 0 + (k : Int).toNat < l.length by omega, ?_⟩
    intro _
    refine call_pure [] (need_ok (lo l (0 + k)) (hi l (0 + k))) rfl rfl rfl ?_ ?_ ?_
    · (repeat' first | exact trivial | exact rfl | refine And.intro ?_ ?_)
    · (repeat' first | exact trivial | exact rfl | refine And.intro ?_ ?_)
    intro v hv _
    subst hv
    intro _; refine ⟨fun g => ?_, fun g => ?_⟩
    · have g : (!decide (ND (lo l (0 + k)) (hi l (0 + k)))) = true := g
      rw [z, Bool.not_eq_true'] at g
      have g := of_decide_eq_false g
      intro _
      exact bad (fun h => g (h.2.2.2 k (by omega))) _ _ rfl
    have g : (!decide (ND (lo l (0 + k)) (hi l (0 + k)))) = false := g
    rw [z, Bool.not_eq_false'] at g
    have g := of_decide_eq_true g
    have g0 := g.1
    have g1 := g.2.1
    refine ⟨⟨k + 1, by omega, nd_succ hmk g⟩, by simp; omega, th [] 1, rfl, rfl, rfl, rfl, rfl, rfl, ?_, ?_⟩
    · (repeat' first | exact trivial | exact rfl | refine And.intro ?_ ?_)
      · exact (wrap_nat k (by omega)).symm
      · show sm (lo l) k + lo l k = IntKind.i64.wrap (sm (lo l) k + lo l (0 + k))
        rw [z, wrapS _ ⟨by omega, by omega⟩]
      · show sm (hi l) k + hi l k = IntKind.i64.wrap (sm (hi l) k + hi l (0 + k))
        rw [z, wrapS _ ⟨by omega, by omega⟩]
    · (repeat' first | exact trivial | exact rfl | refine And.intro ?_ ?_)
  have hkl := of_decide_eq_false (show decide ((k : Int) < (l.length : Int)) = false from g)
  have hkl : k = l.length := by omega
  subst hkl
  have hW : WOk l s gp := ⟨⟨by omega, by omega⟩, hs, ⟨by omega, by omega⟩, hmk⟩
  have gb := gap_bd hW
  have eL : IntKind.i64.wrap (s - IntKind.i64.wrap (gp * IntKind.i64.wrap ((l.length : Int) - 1))) = lft l s gp := by
    rw [wrapS ((l.length : Int) - 1) ⟨by omega, by omega⟩, wrapS (gp * ((l.length : Int) - 1)) ⟨by omega, by omega⟩, wrapS _ ⟨by omega, by omega⟩]
    rfl
  intro _; refine ⟨fun g => ?_, fun g => ?_⟩
  · have g : decide (sm (lo l) l.length > IntKind.i64.wrap (s - IntKind.i64.wrap (gp * IntKind.i64.wrap ((l.length : Int) - 1)))) = true := g
    rw [eL] at g
    have g := of_decide_eq_true g
    intro _
    exact nil 22 (by unfold wr; rw [if_pos hW, if_pos g]) _ _ rfl
  have g : decide (sm (lo l) l.length > IntKind.i64.wrap (s - IntKind.i64.wrap (gp * IntKind.i64.wrap ((l.length : Int) - 1)))) = false := g
  rw [eL] at g
  have gf := of_decide_eq_false g
  have mb := mor_bd hW (by omega)
  have eM : IntKind.i64.wrap (min (IntKind.i64.wrap (s - IntKind.i64.wrap (gp * IntKind.i64.wrap ((l.length : Int) - 1)))) (sm (hi l) l.length) - sm (lo l) l.length) = mor l s gp := by
    rw [eL]; exact wrapS _ ⟨by unfold mor at mb; omega, by unfold mor at mb; omega⟩
  have eU : IntKind.i64.wrap (sm (hi l) l.length - sm (lo l) l.length) = suu l := wrapS _ ⟨by omega, by omega⟩
  intro _
  refine enter tt_ok Try.func36 (nt := 8) (cd := body Try.f36) rfl rfl rfl rfl ?_
  intro _
  intro _
  refine range_ok ?_
  intro _
  refine enter tt_ok Try.func50 (nt := 41) (cd := body Try.f50) rfl rfl rfl rfl ?_
  intro _
  refine loop2 tt_ok [12, 5, 6] [1, 7] 8 (fun k : Fin (l.length + 1) => [(12, .int .i64 (k : Nat)), (5, .int .i64 (dp l k)), (6, .int .i64 (en (mor l s gp) (suu l) l k))]) (fun k => [(1, .cells [.grw 7 (k : Nat)]), (7, .arr [.int .i64] .grow (.ints (tab (k : Nat) (wt (mor l s gp) (suu l) l))))]) (fun k => l.length - k) ⟨0, by omega⟩ ?_
  intro _
  refine ⟨⟨th [(7, none)] 8, rfl, rfl, rfl, rfl, rfl, rfl, ?_, ?_⟩, ?_⟩
  · (repeat' first | exact trivial | exact rfl | refine And.intro ?_ ?_)
    exact en_zero _ _ _
  · (repeat' first | exact trivial | exact rfl | refine And.intro ?_ ?_)
  intro ⟨k, hk⟩
  have z : 0 + k = k := Nat.zero_add k
  intro _; refine ⟨fun g => ?_, fun g => ?_⟩
  · have hkl := of_decide_eq_true (show decide ((k : Int) < (l.length : Int)) = true from g)
    have hkn : k < l.length := by omega
    have d0 := dp_bd hW k (by omega)
    have d1 := dp_bd hW (k + 1) (by omega)
    have x0 := lo_bd hW k hkn
    have x1 := hi_bd hW k hkn
    have x2 := df_bd hW k hkn
    have e0 := en_bd (m := mor l s gp) (u := suu l) mb.1 mb.2.2 d0.1
    have e1 := en_bd (m := mor l s gp) (u := suu l) mb.1 mb.2.2 d1.1
    have eB : IntKind.i64.wrap (dp l k + IntKind.i64.wrap (hi l (0 + k) - lo l (0 + k))) = dp l (k + 1) := by
      rw [z, wrapS (hi l k - lo l k) ⟨by omega, by omega⟩, wrapS _ ⟨by omega, by omega⟩]
      rfl
    intro _; refine ⟨show 0 ≤ (k : Int) ∧ (k : Int) < (l.length : Int) by omega, ?_⟩
    intro _; refine ⟨show 0 + (k : Int).toNat < l.length by omega, ?_⟩
    intro _; refine ⟨fun g => ?_, fun g => ?_⟩
    rotate_left
    · have g : decide (IntKind.i64.wrap (sm (hi l) l.length - sm (lo l) l.length) > 0) = false := g
      rw [eU] at g
      have g := of_decide_eq_false g
      have eE : (0 : Int) = en (mor l s gp) (suu l) l (k + 1) := by unfold en; rw [if_neg (by omega)]
      intro _
      refine yield_ok tt_ok ?_
      intro _; refine ⟨rfl, ?_⟩
      intro _; refine ⟨fun g3 => by simp at g3, fun _ => ?_⟩
      refine ⟨⟨(tab_len k _).symm, show k + 1 ≤ 4611686018427387904 by omega, show (k + 1) * 8 ≤ 70368744177664 by omega⟩, ?_⟩
      intro _
      refine ⟨⟨k + 1, by omega⟩, by simp; omega, th [(7, some 10)] 8, rfl, rfl, rfl, rfl, rfl, rfl, ?_, ?_⟩
      · (repeat' first | exact trivial | exact rfl | refine And.intro ?_ ?_)
        · exact (wrap_nat k (by omega)).symm
        · exact eB.symm
        · exact eE.symm
      · (repeat' first | exact trivial | exact rfl | refine And.intro ?_ ?_)
        show tab k (wt (mor l s gp) (suu l) l) ++ [wt (mor l s gp) (suu l) l k] = tab k (wt (mor l s gp) (suu l) l) ++ [IntKind.i64.wrap (IntKind.i64.wrap (lo l (0 + k) + 0) - en (mor l s gp) (suu l) l k)]
        have : wt (mor l s gp) (suu l) l k = IntKind.i64.wrap (IntKind.i64.wrap (lo l (0 + k) + 0) - en (mor l s gp) (suu l) l k) := by
          rw [z, wrapS (lo l k + 0) ⟨by omega, by omega⟩, wrapS _ ⟨by omega, by omega⟩]
          unfold wt
          rw [← eE]
        rw [this]
    have g : decide (IntKind.i64.wrap (sm (hi l) l.length - sm (lo l) l.length) > 0) = true := g
    rw [eU] at g
    have g := of_decide_eq_true g
    have mm : 0 ≤ mor l s gp * dp l (k + 1) ∧ mor l s gp * dp l (k + 1) ≤ 64000000000000 := by
      refine ⟨Int.mul_nonneg mb.1 d1.1, ?_⟩
      have a1 : mor l s gp * dp l (k + 1) ≤ 1000000 * dp l (k + 1) := Int.mul_le_mul_of_nonneg_right mb.2.1 d1.1
      omega
    have eE : IntKind.i64.wrap ((IntKind.i64.wrap (IntKind.i64.wrap (min (IntKind.i64.wrap (s - IntKind.i64.wrap (gp * IntKind.i64.wrap ((l.length : Int) - 1)))) (sm (hi l) l.length) - sm (lo l) l.length) * IntKind.i64.wrap (dp l k + IntKind.i64.wrap (hi l (0 + k) - lo l (0 + k))))).tdiv (IntKind.i64.wrap (sm (hi l) l.length - sm (lo l) l.length))) = en (mor l s gp) (suu l) l (k + 1) := by
      rw [eM, eU, eB, wrapS (mor l s gp * dp l (k + 1)) ⟨by omega, by omega⟩]
      have : en (mor l s gp) (suu l) l (k + 1) = (mor l s gp * dp l (k + 1)).tdiv (suu l) := by unfold en; rw [if_pos g]
      rw [← this]
      exact wrapS _ ⟨by omega, by omega⟩
    intro _; refine ⟨show IntKind.i64.wrap (sm (hi l) l.length - sm (lo l) l.length) ≠ 0 by rw [eU]; omega, ?_⟩
    intro _
    refine yield_ok tt_ok ?_
    intro _; refine ⟨rfl, ?_⟩
    intro _; refine ⟨fun g3 => by simp at g3, fun _ => ?_⟩
    refine ⟨⟨(tab_len k _).symm, show k + 1 ≤ 4611686018427387904 by omega, show (k + 1) * 8 ≤ 70368744177664 by omega⟩, ?_⟩
    intro _
    refine ⟨⟨k + 1, by omega⟩, by simp; omega, th [(7, some 10)] 8, rfl, rfl, rfl, rfl, rfl, rfl, ?_, ?_⟩
    · (repeat' first | exact trivial | exact rfl | refine And.intro ?_ ?_)
      · exact (wrap_nat k (by omega)).symm
      · exact eB.symm
      · exact eE.symm
    · (repeat' first | exact trivial | exact rfl | refine And.intro ?_ ?_)
      show tab k (wt (mor l s gp) (suu l) l) ++ [wt (mor l s gp) (suu l) l k] = tab k (wt (mor l s gp) (suu l) l) ++ [IntKind.i64.wrap (IntKind.i64.wrap (lo l (0 + k) + IntKind.i64.wrap ((IntKind.i64.wrap (IntKind.i64.wrap (min (IntKind.i64.wrap (s - IntKind.i64.wrap (gp * IntKind.i64.wrap ((l.length : Int) - 1)))) (sm (hi l) l.length) - sm (lo l) l.length) * IntKind.i64.wrap (dp l k + IntKind.i64.wrap (hi l (0 + k) - lo l (0 + k))))).tdiv (IntKind.i64.wrap (sm (hi l) l.length - sm (lo l) l.length)))) - en (mor l s gp) (suu l) l k)]
      rw [eE, z, wrapS (lo l k + en (mor l s gp) (suu l) l (k + 1)) ⟨by omega, by omega⟩, wrapS _ ⟨by omega, by omega⟩]
      rfl
  have g : decide ((k : Int) < (l.length : Int)) = false := g
  have hkl := of_decide_eq_false g
  have hkl : k = l.length := by omega
  subst hkl
  have e2 : wr l s gp = (tab l.length (wt (mor l s gp) (suu l) l), 0) := by unfold wr; rw [if_pos hW, if_neg gf]
  intro _
  intro _
  refine ⟨[(1, some 7)], .tup [.grw 1 (wr l s gp).1.length, .int .i64 (wr l s gp).2], ⟨2, 1, [(1, .arr [.int .i64] .grow (.ints (wr l s gp).1))]⟩, rfl, rfl, rfl, rfl, ?_, ?_, ⟨rfl, rfl⟩⟩
  · rw [e2]
    (repeat' first | exact trivial | exact rfl | refine And.intro ?_ ?_)
    exact tab_len _ _
  · rw [e2]
    (repeat' first | exact trivial | exact rfl | refine And.intro ?_ ?_)
def wd (f h : Nat → Int) : Nat → Bool
  | 0 => true
  | k + 1 => wd f h k && (f k == h k)
theorem wd_all {f h : Nat → Int} : ∀ k, (∀ i, i < k → f i = h i) → wd f h k = true
  | 0, _ => rfl
  | k + 1, hh => by
    simp only [wd]
    rw [wd_all k (fun i hi => hh i (by omega)), hh k (by omega)]
    simp
theorem wt_bd {l : Rows} {s gp : Int} (hW : WOk l s gp) (hf : sm (lo l) l.length ≤ lft l s gp) {i : Nat} (hi' : i < l.length) : lo l i ≤ wt (mor l s gp) (suu l) l i ∧ wt (mor l s gp) (suu l) l i ≤ hi l i := by
  have mb := mor_bd hW hf
  have d0 := dp_bd hW i (by omega)
  have x2 := df_bd hW i hi'
  have st := en_step (m := mor l s gp) (u := suu l) (l := l) (k := i) mb.1 mb.2.2 d0.1 x2.1
  unfold wt
  omega
theorem wt_full {l : Rows} {s gp : Int} (hW : WOk l s gp) (h : sm (hi l) l.length ≤ lft l s gp) {i : Nat} (hi' : i < l.length) : wt (mor l s gp) (suu l) l i = hi l i := by
  have e : mor l s gp = suu l := by unfold mor suu; rw [Int.min_eq_right h]
  have d0 := dp_bd hW i (by omega)
  have d1 := dp_bd hW (i + 1) (by omega)
  have u0 := dp_bd hW l.length (Nat.le_refl _)
  rw [← suu_dp] at u0
  have m0 : dp l i ≤ suu l := by rw [suu_dp]; exact sm_mono (n := l.length) (fun j hj => (df_bd hW j hj).1) i l.length (Nat.le_refl _) (by omega)
  have m1 : dp l (i + 1) ≤ suu l := by rw [suu_dp]; exact sm_mono (n := l.length) (fun j hj => (df_bd hW j hj).1) (i + 1) l.length (Nat.le_refl _) (by omega)
  unfold wt
  rw [e, en_full d0.1 u0.1 m0, en_full d1.1 u0.1 m1]
  simp only [dp, sm]
  omega
theorem wt_end {l : Rows} {s gp : Int} (hW : WOk l s gp) (hf : sm (lo l) l.length ≤ lft l s gp) : sm (wt (mor l s gp) (suu l) l) l.length = min (lft l s gp) (sm (hi l) l.length) := by
  have mb := mor_bd hW hf
  have u0 := dp_bd hW l.length (Nat.le_refl _)
  rw [wt_sum, en_last mb.1 mb.2.2 (suu_dp l).symm u0.1]
  unfold mor
  omega
theorem law5 (l : Rows) (s gp : Int) (hl : l.length ≤ 9223372036854775807) : SemF Try.prog 5 [.slc 0 2 0 l.length, .int .i64 s, .int .i64 gp] ⟨1, 1, [(0, .arr [.int .i64, .int .i64] .ro (.recs l))]⟩ (fun v _ => IsTrue v) := by
  refine enter tt_ok Try.func5 (nt := 131) (cd := body Try.f5) rfl rfl rfl rfl ?_
  intro _
  refine head_ok rfl Try.func16 (cd := body Try.f16) rfl ?_
  intro _
  refine call_pure [(0, some 0)] (usable_ok l s gp hl) rfl rfl rfl ?_ ?_ ?_
  · (repeat' first | exact trivial | exact rfl | refine And.intro ?_ ?_)
  · (repeat' first | exact trivial | exact rfl | refine And.intro ?_ ?_)
  intro v hv _
  subst hv
  intro _; refine ⟨fun g => ?_, fun g => ?_⟩
  · have g : (!decide (WOk l s gp)) = true := g
    intro _
    rfl
  have g : (!decide (WOk l s gp)) = false := g
  rw [Bool.not_eq_false'] at g
  have hW := of_decide_eq_true g
  have hn := hW.1
  have gb := gap_bd hW
  have hs := hW.2.1
  intro _
  refine call_new [(0, some 0)] (widths_ok l s gp hl) rfl rfl rfl rfl ?_ ?_ ?_
  · (repeat' first | exact trivial | exact rfl | refine And.intro ?_ ?_)
  · (repeat' first | exact trivial | exact rfl | refine And.intro ?_ ?_)
  intro v h' hv
  obtain ⟨rfl, rfl⟩ := hv
  refine ⟨[(1, some 1)], 2, [(1, .arr [.int .i64] .grow (.ints (wr l s gp).1))], .tup [.grw 1 (wr l s gp).1.length, .int .i64 (wr l s gp).2], rfl, rfl, rfl, rfl, rfl, ?_, ?_, ?_⟩
  · (repeat' first | exact trivial | exact rfl | refine And.intro ?_ ?_)
  · (repeat' first | exact trivial | exact rfl | refine And.intro ?_ ?_)
  have eN : IntKind.i64.wrap ((l.length : Int) - 1) = (l.length : Int) - 1 := wrapS _ ⟨by omega, by omega⟩
  have eG : IntKind.i64.wrap (gp * IntKind.i64.wrap ((l.length : Int) - 1)) = gp * ((l.length : Int) - 1) := by
    rw [eN]; exact wrapS _ ⟨by omega, by omega⟩
  intro _
  refine loop2 tt_ok [10, 12] [] 2 (fun k : Fin (l.length + 1) => [(10, .int .i64 (gp * ((l.length : Int) - 1) + sm (lo l) k)), (12, .int .i64 (k : Nat))]) (fun _ => []) (fun k => l.length - k) ⟨0, by omega⟩ ?_
  intro _
  refine ⟨⟨th [] 2, rfl, rfl, rfl, rfl, rfl, rfl, ?_, ?_⟩, ?_⟩
  · (repeat' first | exact trivial | exact rfl | refine And.intro ?_ ?_)
    rw [eG]; exact Int.add_zero _
  · (repeat' first | exact trivial | exact rfl | refine And.intro ?_ ?_)
  intro ⟨k, hk⟩
  have z : 0 + k = k := Nat.zero_add k
  have bl := sm_bd (lo_bd hW) k (by omega)
  intro _; refine ⟨fun g => ?_, fun g => ?_⟩
  · have hkl := of_decide_eq_true (show decide ((k : Int) < (l.length : Int)) = true from g)
    have x0 := lo_bd hW k (by omega)
    intro _; refine ⟨show 0 ≤ (k : Int) ∧ (k : Int) < (l.length : Int) by omega, ?_⟩
    intro _; refine ⟨show 0 + (k : Int).toNat < l.length by omega, ?_⟩
    refine ⟨⟨k + 1, by omega⟩, by simp; omega, th [] 2, rfl, rfl, rfl, rfl, rfl, rfl, ?_, ?_⟩
    · (repeat' first | exact trivial | exact rfl | refine And.intro ?_ ?_)
      · show gp * ((l.length : Int) - 1) + (sm (lo l) k + lo l k) = IntKind.i64.wrap (gp * ((l.length : Int) - 1) + sm (lo l) k + lo l (0 + k))
        rw [z, wrapS _ ⟨by omega, by omega⟩, Int.add_assoc]
      · exact (wrap_nat k (by omega)).symm
    · (repeat' first | exact trivial | exact rfl | refine And.intro ?_ ?_)
  have hkl := of_decide_eq_false (show decide ((k : Int) < (l.length : Int)) = false from g)
  have hkl : k = l.length := by omega
  subst hkl
  intro _; refine ⟨fun g => ?_, fun g => ?_⟩
  · have g : decide (gp * ((l.length : Int) - 1) + sm (lo l) l.length > s) = true := g
    have g := of_decide_eq_true g
    have e1 : wr l s gp = ([], 22) := by
      unfold wr
      rw [if_pos hW, if_pos (by unfold lft; omega)]
    intro _; refine ⟨fun g => ?_, fun g => ?_⟩
    · intro _
      show (((wr l s gp).1.length : Int) == 0) = true
      rw [e1]; rfl
    · exfalso
      have g : ((wr l s gp).2 == 22) = false := g
      rw [e1] at g; simp at g
  have g : decide (gp * ((l.length : Int) - 1) + sm (lo l) l.length > s) = false := g
  have gf := of_decide_eq_false g
  have gf' : ¬ sm (lo l) l.length > lft l s gp := by unfold lft; omega
  have mb := mor_bd hW (by omega)
  have e1 : wr l s gp = (tab l.length (wt (mor l s gp) (suu l) l), 0) := by unfold wr; rw [if_pos hW, if_neg gf']
  have eL : List.length (wr l s gp).1 = l.length := by rw [e1]; exact tab_len _ _
  intro _; refine ⟨fun g => ?_, fun g => ?_⟩
  · exfalso
    have g : ((wr l s gp).2 != 0) = true := g
    rw [e1] at g; simp at g
  intro _; refine ⟨fun g => ?_, fun g => ?_⟩
  · exfalso
    have g : (((wr l s gp).1.length : Int) != (l.length : Int)) = true := g
    rw [eL] at g; simp at g
  intro _
  refine loop2 tt_ok [11, 13, 14] [] 2 (fun k : Fin (l.length + 1) => [(11, .int .i64 (gp * ((l.length : Int) - 1) + sm (wt (mor l s gp) (suu l) l) k)), (13, .test (wd (wt (mor l s gp) (suu l) l) (hi l) k)), (14, .int .i64 (k : Nat))]) (fun _ => []) (fun k => l.length - k) ⟨0, by omega⟩ ?_
  intro _
  refine ⟨⟨th [] 2, rfl, rfl, rfl, rfl, rfl, rfl, ?_, ?_⟩, ?_⟩
  · (repeat' first | exact trivial | exact rfl | refine And.intro ?_ ?_)
    rw [eG]; exact Int.add_zero _
  · (repeat' first | exact trivial | exact rfl | refine And.intro ?_ ?_)
  intro ⟨k, hk⟩
  have z : 0 + k = k := Nat.zero_add k
  have d0 := dp_bd hW k (by omega)
  have en0 := en_bd (m := mor l s gp) (u := suu l) mb.1 mb.2.2 d0.1
  have bl := sm_bd (lo_bd hW) k (by omega)
  have ws := wt_sum (mor l s gp) (suu l) l k
  intro _; refine ⟨fun g => ?_, fun g => ?_⟩
  rotate_left
  · have g : decide ((k : Int) < ((wr l s gp).1.length : Int)) = false := g
    rw [eL] at g
    have hkl := of_decide_eq_false g
    have hkl : k = l.length := by omega
    subst hkl
    have we := wt_end hW (by omega)
    have ht : gp * ((l.length : Int) - 1) + sm (wt (mor l s gp) (suu l) l) l.length ≤ s := by
      rw [we]; unfold lft; omega
    intro _; refine ⟨fun g => ?_, fun g => ?_⟩
    rotate_left
    · have g := of_decide_eq_false (show decide (gp * ((l.length : Int) - 1) + sm (wt (mor l s gp) (suu l) l) l.length ≤ s) = false from g)
      omega
    intro _; refine ⟨fun g => ?_, fun g => ?_⟩
    · intro _
      rfl
    have g : wd (wt (mor l s gp) (suu l) l) (hi l) l.length = false := g
    intro _
    show (gp * ((l.length : Int) - 1) + sm (wt (mor l s gp) (suu l) l) l.length == s) = true
    have : ¬ sm (hi l) l.length ≤ lft l s gp := fun h => by
      rw [wd_all l.length (fun i hi' => wt_full hW h hi')] at g
      cases g
    rw [beq_iff_eq, we, Int.min_eq_left (by omega)]
    unfold lft
    omega
  have g : decide ((k : Int) < ((wr l s gp).1.length : Int)) = true := g
  rw [eL] at g
  have hkl := of_decide_eq_true g
  have hkn : k < l.length := by omega
  have eW : (wr l s gp).1.getD k 0 = wt (mor l s gp) (suu l) l k := by rw [e1]; exact tab_get hkn
  have wb := wt_bd hW (by omega) hkn
  have x1 := hi_bd hW k hkn
  have x0 := lo_bd hW k hkn
  have i1 : 0 ≤ (k : Int) ∧ (k : Int) < ((wr l s gp).1.length : Int) := by rw [eL]; omega
  have i2 : (k : Int).toNat < List.length (wr l s gp).1 := by rw [eL]; omega
  have i3 : 0 ≤ (k : Int) ∧ (k : Int) < (l.length : Int) := by omega
  have i4 : 0 + (k : Int).toNat < l.length := by omega
  intro _; refine ⟨i1, ?_⟩
  intro _; refine ⟨i2, ?_⟩
  intro _; refine ⟨i3, ?_⟩
  intro _; refine ⟨i4, ?_⟩
  intro _; refine ⟨fun g => ?_, fun g => ?_⟩
  · exfalso
    have g : decide ((wr l s gp).1.getD k 0 < lo l (0 + k)) = true := g
    rw [z, eW] at g
    have := of_decide_eq_true g
    omega
  intro _; refine ⟨i1, ?_⟩
  intro _; refine ⟨i2, ?_⟩
  intro _; refine ⟨i3, ?_⟩
  intro _; refine ⟨i4, ?_⟩
  intro _; refine ⟨by kernel_rfl, ?_⟩
  intro _; refine ⟨fun g => ?_, fun g => ?_⟩
  · exfalso
    have g : decide ((wr l s gp).1.getD k 0 > hi l (0 + k)) = true := g
    rw [z, eW] at g
    have := of_decide_eq_true g
    omega
  intro _; refine ⟨fun g => ?_, fun g => ?_⟩
  · have gw : wd (wt (mor l s gp) (suu l) l) (hi l) k = true := g
    intro _; refine ⟨i1, ?_⟩
    intro _; refine ⟨i2, ?_⟩
    intro _; refine ⟨i3, ?_⟩
    intro _; refine ⟨i4, ?_⟩
    intro _; refine ⟨by kernel_rfl, ?_⟩
    intro _; refine ⟨i1, ?_⟩
    intro _; refine ⟨i2, ?_⟩
    refine ⟨⟨k + 1, by omega⟩, by simp; omega, th [] 2, rfl, rfl, rfl, rfl, rfl, rfl, ?_, ?_⟩
    · (repeat' first | exact trivial | exact rfl | refine And.intro ?_ ?_)
      · show gp * ((l.length : Int) - 1) + (sm (wt (mor l s gp) (suu l) l) k + wt (mor l s gp) (suu l) l k) = IntKind.i64.wrap (gp * ((l.length : Int) - 1) + sm (wt (mor l s gp) (suu l) l) k + (wr l s gp).1.getD k 0)
        rw [eW, wrapS _ ⟨by omega, by omega⟩, Int.add_assoc]
      · show (wd (wt (mor l s gp) (suu l) l) (hi l) k && (wt (mor l s gp) (suu l) l k == hi l k)) = ((wr l s gp).1.getD k 0 == hi l (0 + k))
        rw [gw, z, eW, Bool.true_and]
      · exact (wrap_nat k (by omega)).symm
    · (repeat' first | exact trivial | exact rfl | refine And.intro ?_ ?_)
  · have gw : wd (wt (mor l s gp) (suu l) l) (hi l) k = false := g
    intro _; refine ⟨by kernel_rfl, ?_⟩
    intro _; refine ⟨i1, ?_⟩
    intro _; refine ⟨i2, ?_⟩
    refine ⟨⟨k + 1, by omega⟩, by simp; omega, th [] 2, rfl, rfl, rfl, rfl, rfl, rfl, ?_, ?_⟩
    · (repeat' first | exact trivial | exact rfl | refine And.intro ?_ ?_)
      · show gp * ((l.length : Int) - 1) + (sm (wt (mor l s gp) (suu l) l) k + wt (mor l s gp) (suu l) l k) = IntKind.i64.wrap (gp * ((l.length : Int) - 1) + sm (wt (mor l s gp) (suu l) l) k + (wr l s gp).1.getD k 0)
        rw [eW, wrapS _ ⟨by omega, by omega⟩, Int.add_assoc]
      · show (wd (wt (mor l s gp) (suu l) l) (hi l) k && (wt (mor l s gp) (suu l) l k == hi l k)) = false
        rw [gw, Bool.false_and]
      · exact (wrap_nat k (by omega)).symm
    · (repeat' first | exact trivial | exact rfl | refine And.intro ?_ ?_)

theorem walk (w : World) (v_l : Value) (s_l : Src) (l : List (List Go.Vm2.D)) (cap_l : Nat) (hk_l : s_l.ks = [.int .i64, .int .i64]) (ha_l : s_l.ac = .recs l) (hs_l : s_l.lies w) (hn_l : s_l.at_ = none → l.length = 0) (hc_l : l.length ≤ cap_l) (hv_l : v_l = s_l.val cap_l) (hm_l : l.length ≤ maxLen) (w_l : ∀ n ∈ l, rowWf [.int .i64, .int .i64] n) (s : Int) (w_s : (Lit.int .i64 s).wf = true) (gp : Int) (w_gp : (Lit.int .i64 gp).wf = true) :
    Calls Try.prog 5 #[v_l, .int .i64 s, .int .i64 gp] w fun e w' => e = .returned (.bool true) ∧ Below w.heap.size w w' := by
  obtain ⟨at_l, ks_l, ac_l⟩ := s_l
  simp only [] at hk_l ha_l
  subst hk_l ha_l
  have h_l : l.length ≤ 9223372036854775807 := by unfold maxLen at hm_l; omega
  have b_s := w_s
  simp [Lit.wf, IntKind.min, IntKind.max, IntKind.signed, IntKind.bits] at b_s
  have b_gp := w_gp
  simp [Lit.wf, IntKind.min, IntKind.max, IntKind.signed, IntKind.bits] at b_gp
  exact top_run (by kernel_rfl) (by kernel_rfl) (T := [16]) (fun f hf w => by
      rcases List.mem_cons.1 hf with e | e
      · subst e; exact head w
      · exact (List.not_mem_nil e).elim) (l := [⟨at_l, [.int .i64, .int .i64], .recs l⟩]) (args := [.slc 0 2 0 l.length, .int .i64 s, .int .i64 gp]) («as» := [Src.av 0 cap_l ⟨at_l, [.int .i64, .int .i64], .recs l⟩, .int .i64 s, .int .i64 gp]) (cargs := [v_l, .int .i64 s, .int .i64 gp]) w
    (fun s h => by
      rcases List.mem_cons.1 h with e | h
      · subst e; exact hs_l
      · exact (List.not_mem_nil h).elim)
    (Cvs.cons (src_cv (s := ⟨at_l, [.int .i64, .int .i64], .recs l⟩) rfl 2 hc_l hn_l) (Cvs.cons mk_int (Cvs.cons mk_int Cvs.nil)))
    (by simp only [Go.Vm.convs, Go.Vm.conv]; rw [src_conv (j := 0) (s := ⟨at_l, [.int .i64, .int .i64], .recs l⟩) rfl, hv_l])
    ((law5 l s gp h_l))

set_option maxRecDepth 100000 in
theorem lifted (os : Os) (started : os.Started) (H : Type) (enc : TypeId × Value → H) :
    ReturnsInHanded {} Try.checked os 5 .any (Rows.tableWidthsSpec.pre6 enc Try.prog Try.f5 Rows.tableWidthsRow.domain false) (Rows.tableWidthsSpec.post enc Try.prog Try.f5 false true false false) := by
  refine returnsInHanded_of_change (C := Try.checked) own started (by kernel_rfl) Try.func5
    (ChangeSpec.witness6 (enc := enc) (C := Try.checked) false ⟨#[], #[.slice none 0 0, .int .i64 0, .int .i64 0], []⟩ 8 (by kernel_rfl) (by kernel_rfl) (by kernel_rfl) (by kernel_rfl)) ?_
  intro W base args ds gs before hval0 hW hcnd _
  have hval : ∀ (j : Nat) t v, Try.f5.params[j]? = some t → args[j]? = some v → Value.okWide Try.prog W .any base t v := hval0
  have hW' := hW
  obtain ⟨p, q, hA0, hV, rfl, hfz, hnd⟩ := hW
  have hA : DataW.TrodAll enc Try.prog W 0 (fun _ => true) true Try.f5.params.toList args.toList ds p := hA0
  rw [Try.params5] at hA hval
  obtain ⟨v0, vs0, d0, ds0, p0, q0, hargs, rfl, rfl, h0, r0⟩ := trodAll_cons hA
  obtain ⟨v1, vs1, d1, ds1, p1, q1, rfl, rfl, rfl, h1, r1⟩ := trodAll_cons r0
  obtain ⟨v2, vs2, d2, ds2, p2, q2, rfl, rfl, rfl, h2, r2⟩ := trodAll_cons r1
  obtain ⟨rfl, rfl, rfl⟩ := trodAll_nil r2
  obtain rfl : args = #[v0, v1, v2] := by cases args; simp_all
  obtain ⟨rfl, rfl⟩ := trodVars_none hV
  obtain ⟨s_l, l, cap_l, hk_l, ha_l, hs_l, hn_l, hc_l, hv_l, hm_l, w_l⟩ := Go.Vm2.open_recs (ks := [.int .i64, .int .i64]) Try.underlying37 Try.underlying43 (by kernel_rfl) (by simp) (by kernel_rfl) (hval 0 37 v0 rfl rfl) h0
  have hlt0 : ∀ x ∈ p0, x.block < W.heap.size := fun x hx => by simpa using hW'.lt x (by simp [hx])
  obtain ⟨s, rfl, rfl, rfl, w_s⟩ := open_int Try.underlying3 (hval 1 3 v1 rfl rfl) h1
  obtain ⟨gp, rfl, rfl, rfl, w_gp⟩ := open_int Try.underlying3 (hval 2 3 v2 rfl rfl) h2
  clear hA0 hval0
  refine (walk W v0 s_l l cap_l hk_l ha_l hs_l hn_l hc_l hv_l hm_l w_l s w_s gp w_gp).mono fun e W' ⟨he, hg⟩ => ?_
  subst he
  exact ⟨_, rfl, _, _, _, [], _, [], hW', trodAll_cons_mk (shut_bool Try.underlying4 _) trodAll_mk0, (trodAll_cons_mk (Below.trod laidOut (by kernel_rfl) (of_decide_eq_true (by kernel_rfl)) h0 hg hlt0) (trodAll_cons_mk (shut_int Try.underlying3 w_s) (trodAll_cons_mk (shut_int Try.underlying3 w_gp) trodAll_mk0))), rfl, hg.frame _, fun h => by cases h⟩

theorem over : Rows.tableWidthsRow.holds Try.pinned (OpenSpec.ofChange Rows.tableWidthsSpec) :=
  OpenClaim.holds_of_wide 5 Try.f5 rfl rfl rfl rfl rfl rfl rfl ⟨rfl, rfl, rfl, rfl, rfl⟩ rfl rfl rfl rfl rfl (by kernel_rfl) Try.func5 (by kernel_rfl)
    (of_decide_eq_true (by kernel_rfl)) (by unfold Func.isWrapper; first | (rw [if_pos (by decide +kernel)]; kernel_rfl) | (rw [if_neg (by decide +kernel)]; exact ⟨rfl, rfl⟩))
    (fun os started H enc _ => lifted os started H enc)

/-- the statement -/
theorem proved : Rows.TableWidthsSaid :=
  over
#print axioms proved
end Go.Proofs.Ytckdkhdkcihpjaa.tableWidths
