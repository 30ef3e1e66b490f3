/-
  MarginsTurned: whatever the arguments, the law returns true, and its arguments read as before. No conditions.
-/
import Derived.Test.YtkphagflnhnfkaaRows
import Derived.Test.YtkphagflnhnfkaaVwOpen2
import Derived.Test.YtkphagflnhnfkaaVwRules6
import Derived.Test.YtkphagflnhnfkaaVmSym
import Derived.WalkKit
import Derived.ProofKit
import Derived.OpenShut
import Derived.Carry
namespace Go.Proofs.Ytkphagflnhnfkaa.marginsTurned
open Go.ChangeShapes Go.WideShapes Go.ChangeAt Go.RowKit
open Go.Vm (Facts Val Sound)
open Go.Vm2
set_option linter.unusedVariables false
set_option linter.unusedSectionVars false

theorem own : ownKnob Try.prog.godebug = none := by kernel_rfl
theorem laidOut : laidOutB Try.prog = true := by kernel_rfl
def ts : List Nat := [22, 3, 23, 39, 25, 5, 35, 73, 71]
def tt : Go.Vm2.TT := [
  (22, ⟨(.slice 3 1 8 [.int .i64]), false, 1, .nils, true⟩),
  (3, ⟨(.int .i64), false, 1, .int .i64 (0), true⟩),
  (23, ⟨(.slice 39 3 24 [.int .i64, .int .i64, .int .i64]), false, 1, .nils, true⟩),
  (39, ⟨(.struct [⟨0, 1, false⟩, ⟨1, 1, false⟩, ⟨2, 1, false⟩]), true, 3, .agg [.int .i64 (0), .int .i64 (0), .int .i64 (0)], true⟩),
  (25, ⟨(.int .i64), false, 1, .int .i64 (0), true⟩),
  (5, ⟨(.int .u8), false, 1, .int .u8 (0), true⟩),
  (35, ⟨(.int .u16), false, 1, .int .u16 (0), true⟩),
  (73, ⟨(.struct [⟨0, 2, true⟩]), true, 2, .agg [.int .i64 (0), .int .i64 (0)], false⟩),
  (71, ⟨(.struct [⟨0, 1, false⟩, ⟨1, 1, false⟩]), true, 2, .agg [.int .i64 (0), .int .i64 (0)], true⟩)]
theorem tt_mk : mkTT Try.prog ts = some tt := by kernel_rfl
theorem head (w : World) : Calls Try.prog 15 #[] w fun e w' => e = .returned (.bool true) ∧ Below w.heap.size w w' :=
  Go.Vm.head_run (by kernel_rfl) (by kernel_rfl) (n := 1000000) (by kernel_rfl) w
instance facts : Facts := ⟨[], [15], false⟩
instance val : Val := ⟨fun _ => 0⟩
instance sound : Sound := ⟨fun f hf => (List.not_mem_nil hf).elim⟩
theorem tt_ok : TTok Try.prog tt := ttok_mk tt_mk
def body (f : Func) : Code := match f.body with | some c => c | none => .skip
set_option maxRecDepth 100000
def hi (l : List Int) (k : Nat) : Int := (l.take k).foldl max 0
def lo (l : List Int) (k : Nat) : Int := (l.take k).foldl min 0
theorem hi_succ (l : List Int) (k : Nat) (h : k < l.length) : hi l (k + 1) = max (hi l k) (l.getD k 0) := by
  unfold hi; rw [List.take_succ_eq_append_getElem h, List.foldl_append]; simp [h]
theorem lo_succ (l : List Int) (k : Nat) (h : k < l.length) : lo l (k + 1) = min (lo l k) (l.getD k 0) := by
  unfold lo; rw [List.take_succ_eq_append_getElem h, List.foldl_append]; simp [h]
def I (l : List Int) (k : Nat) : Frm × H :=
  (⟨18, [(3, .ptr 1 0), (6, .slc 0 1 0 l.length), (7, .int .i64 l.length), (8, .int .i64 k)], []⟩,
   ⟨2, 1, [(0, .arr [.int .i64] .rd (.ints l)), (1, .cells [.int .i64 (hi l k), .int .i64 (lo l k)])]⟩)
theorem wrap_nat (k : Nat) (h : k < 9223372036854775807) : IntKind.i64.wrap ((k : Int) + 1) = ((k + 1 : Nat) : Int) := by
  rw [IntKind.wrap_i64]; omega
theorem join_ok (l : List Int) (hl : l.length ≤ 5000) : SemF Try.prog 34 [.slc 0 1 0 l.length] ⟨1, 1, [(0, .arr [.int .i64] .rd (.ints l))]⟩
    (fun v _ => v = .int .i64 (IntKind.i64.wrap (hi l l.length + lo l l.length)) ∧ nameless v = true) := by
  refine enter tt_ok Try.func34 (nt := 18) (cd := body Try.f34) rfl rfl rfl rfl ?_
  intro _
  refine loop tt_ok (fun k : Fin (l.length + 1) => I l k) (fun k => l.length - k) ⟨0, by omega⟩ ?_ ?_
  · refine ⟨[(0, some 0), (1, some 1)], rfl, rfl, rfl, rfl, rfl, rfl, ?_, ?_⟩
    · exact And.intro rfl (And.intro (And.intro rfl (And.intro rfl rfl)) (And.intro rfl (And.intro rfl trivial)))
    · exact And.intro rfl (And.intro (And.intro rfl (And.intro rfl trivial)) trivial)
  · intro ⟨k, hk⟩
    intro _; refine ⟨fun g => ?_, fun g => ?_⟩
    · intro _; refine ⟨by simp at g; simp; omega, ?_⟩
      intro _; refine ⟨by simp at g; simp [AC.len]; omega, ?_⟩
      intro _
      refine enter tt_ok Try.func42 (nt := 22) (cd := body Try.f42) rfl rfl rfl rfl ?_
      intro _
      refine ⟨⟨k + 1, by simp at g; omega⟩, by simp at g; simp; omega, [(0, some 0), (1, some 1)], rfl, rfl, rfl, rfl, rfl, rfl, ?_, ?_⟩
      · exact And.intro rfl (And.intro (And.intro rfl (And.intro rfl rfl)) (And.intro rfl (And.intro (show ((k + 1 : Nat) : Int) = IntKind.i64.wrap ((k : Int) + 1) from (wrap_nat k (by omega)).symm) trivial)))
      · have hkl : k < l.length := by simp at g; omega
        have e0 : 0 + ((k : Int)).toNat = k := by omega
        have e1 := hi_succ l k hkl
        have e2 := lo_succ l k hkl
        exact And.intro rfl (And.intro (And.intro (show hi l (k + 1) = max (hi l k) (l.getD (0 + ((k : Int)).toNat) 0) by rw [e0]; exact e1) (And.intro (show lo l (k + 1) = min (lo l k) (l.getD (0 + ((k : Int)).toNat) 0) by rw [e0]; exact e2) trivial)) trivial)
    · have hkl : k = l.length := by simp at g; omega
      subst hkl
      intro _
      refine enter tt_ok Try.func43 (nt := 12) (cd := body Try.f43) rfl rfl rfl rfl ?_
      intro _
      refine ⟨by kernel_rfl, ?_⟩
      intro _
      intro _
      exact ⟨rfl, rfl⟩

def mx (l : List Int) : Int := l.foldl max 0
def mn (l : List Int) : Int := l.foldl min 0
theorem hi_all (l : List Int) : hi l l.length = mx l := by unfold hi mx; rw [List.take_length]
theorem lo_all (l : List Int) : lo l l.length = mn l := by unfold lo mn; rw [List.take_length]
def Mg (n : Int) : Prop := -1000000000 ≤ n ∧ n ≤ 1000000000
theorem foldl_max (l : List Int) : ∀ a, (∀ n ∈ l, n ≤ 1000000000) → a ≤ 1000000000 → a ≤ l.foldl max a ∧ l.foldl max a ≤ 1000000000 := by
  induction l with
  | nil => intro a _ h; exact ⟨Int.le_refl _, h⟩
  | cons x l ih =>
    intro a h1 h2
    have hx := h1 x (by simp)
    have := ih (max a x) (fun n hn => h1 n (by simp [hn])) (by omega)
    simp only [List.foldl_cons]
    omega
theorem foldl_min (l : List Int) : ∀ a, (∀ n ∈ l, -1000000000 ≤ n) → -1000000000 ≤ a → l.foldl min a ≤ a ∧ -1000000000 ≤ l.foldl min a := by
  induction l with
  | nil => intro a _ h; exact ⟨Int.le_refl _, h⟩
  | cons x l ih =>
    intro a h1 h2
    have hx := h1 x (by simp)
    have := ih (min a x) (fun n hn => h1 n (by simp [hn])) (by omega)
    simp only [List.foldl_cons]
    omega
theorem mx_bd (l : List Int) (h : ∀ n ∈ l, Mg n) : 0 ≤ mx l ∧ mx l ≤ 1000000000 := foldl_max l 0 (fun n hn => (h n hn).2) (by omega)
theorem mn_bd (l : List Int) (h : ∀ n ∈ l, Mg n) : mn l ≤ 0 ∧ -1000000000 ≤ mn l := foldl_min l 0 (fun n hn => (h n hn).1) (by omega)
theorem margin_ok (n : Int) (h : H) (K : V → H → Prop) (h1 : n < -1000000000 → K (.bool false) h) (h2 : -1000000000 ≤ n → K (.test (decide (n ≤ 1000000000))) h) : SemF Try.prog 33 [.int .i64 n] h K := by
  refine enter tt_ok Try.func33 (nt := 9) (cd := body Try.f33) rfl rfl rfl rfl ?_
  intro _; refine ⟨fun g => ?_, fun g => ?_⟩
  · intro _; exact h2 (by simp at g; omega)
  · intro _; exact h1 (by simp at g; omega)
theorem rmargin_ok (n : Int) (h : H) (K : V → H → Prop) (h1 : n < -1000000000 → K (.bool false) h) (h2 : -1000000000 ≤ n → K (.test (decide (n ≤ 1000000000))) h) : SemF Try.prog 22 [.int .i64 n] h K := by
  refine enter tt_ok Try.func22 (nt := 9) (cd := body Try.f22) rfl rfl rfl rfl ?_
  intro _; refine ⟨fun g => ?_, fun g => ?_⟩
  · intro _; exact h2 (by simp at g; omega)
  · intro _; exact h1 (by simp at g; omega)
def IJ (l : List Int) (k : Nat) : Frm × H :=
  (⟨21, [(0, .slc 0 1 0 l.length), (9, .slc 0 1 0 l.length), (10, .int .i64 l.length), (11, .int .i64 k)], []⟩,
   ⟨1, 1, [(0, .arr [.int .i64] .rd (.ints l))]⟩)
/-- Join, of margins -/
theorem Join_ok (l : List Int) (hl : l.length ≤ 4000) (hm : ∀ n ∈ l, Mg n) : SemF Try.prog 16 [.slc 0 1 0 l.length] ⟨1, 1, [(0, .arr [.int .i64] .rd (.ints l))]⟩
    (fun v _ => v = .tup [.int .i64 (mx l + mn l), .int .i64 0] ∧ nameless v = true) := by
  refine enter tt_ok Try.func16 (nt := 21) (cd := body Try.f16) rfl rfl rfl rfl ?_
  intro _; refine ⟨fun g => by simp at g; omega, fun g => ?_⟩
  intro _
  refine loop tt_ok (fun k : Fin (l.length + 1) => IJ l k) (fun k => l.length - k) ⟨0, by omega⟩ ?_ ?_
  · refine ⟨[(0, some 0)], rfl, rfl, rfl, rfl, rfl, rfl, ?_, ?_⟩
    · exact And.intro (And.intro rfl (And.intro rfl rfl)) (And.intro (And.intro rfl (And.intro rfl rfl)) (And.intro rfl (And.intro rfl trivial)))
    · exact And.intro rfl trivial
  · intro ⟨k, hk⟩
    intro _; refine ⟨fun g => ?_, fun g => ?_⟩
    · have hkl : k < l.length := by simp at g; omega
      have e0 : 0 + ((k : Int)).toNat = k := by omega
      have hmk : Mg (l.getD k 0) := hm _ (by rw [List.getD_eq_getElem?_getD]; simp [hkl])
      intro _; refine ⟨by simp; omega, ?_⟩
      intro _; refine ⟨by simp [AC.len]; omega, ?_⟩
      intro _
      refine margin_ok _ _ _ (fun h1 => ?_) (fun h1 => ?_)
      · have h1 : l.getD (0 + ((k : Int)).toNat) 0 < -1000000000 := h1
        rw [e0] at h1; have := hmk.1; omega
      · intro _; refine ⟨fun g2 => ?_, fun g2 => ?_⟩
        · exfalso
          have g2 : (!decide (l.getD (0 + ((k : Int)).toNat) 0 ≤ 1000000000)) = true := g2
          rw [e0, Bool.not_eq_true'] at g2; exact of_decide_eq_false g2 hmk.2
        · refine ⟨⟨k + 1, by omega⟩, by simp; omega, [(0, some 0)], rfl, rfl, rfl, rfl, rfl, rfl, ?_, ?_⟩
          · exact And.intro (And.intro rfl (And.intro rfl rfl)) (And.intro (And.intro rfl (And.intro rfl rfl)) (And.intro rfl (And.intro (show ((k + 1 : Nat) : Int) = IntKind.i64.wrap ((k : Int) + 1) from (wrap_nat k (by omega)).symm) trivial)))
          · exact And.intro rfl trivial
    · intro _
      refine call_pure [(0, some 0)] (join_ok l (by omega)) rfl rfl rfl ?_ ?_ ?_
      · exact And.intro rfl trivial
      · exact And.intro (And.intro rfl (And.intro rfl rfl)) trivial
      · intro v hv _
        subst hv
        intro _
        refine ⟨?_, rfl⟩
        have b1 := mx_bd l hm
        have b2 := mn_bd l hm
        show V.tup [.int .i64 (IntKind.i64.wrap (hi l l.length + lo l l.length)), .int .i64 0] = _
        rw [hi_all, lo_all]
        have : IntKind.i64.wrap (mx l + mn l) = mx l + mn l := by rw [IntKind.wrap_i64]; omega
        rw [this]

/-! right -/
def Rt (l : List Int) : Prop := (∀ n ∈ l, Mg n) ∧ l.length ≤ 1000
def IR (l : List Int) (k : Nat) : Frm × H :=
  (⟨18, [(0, .slc 0 1 0 l.length), (5, .slc 0 1 0 l.length), (6, .int .i64 l.length), (7, .int .i64 k)], []⟩,
   ⟨1, 1, [(0, .arr [.int .i64] .rd (.ints l))]⟩)
theorem all_of (l : List Int) (h : ∀ i, i < l.length → Mg (l.getD i 0)) : ∀ n ∈ l, Mg n := by
  intro n hn
  obtain ⟨i, hi, rfl⟩ := List.getElem_of_mem hn
  have := h i hi
  rw [List.getD_eq_getElem?_getD, List.getElem?_eq_getElem hi] at this
  exact this
theorem of_all (l : List Int) (h : ∀ n ∈ l, Mg n) (i : Nat) (hi : i < l.length) : Mg (l.getD i 0) := by
  rw [List.getD_eq_getElem?_getD, List.getElem?_eq_getElem hi]
  exact h _ (List.getElem_mem hi)
theorem right_ok (l : List Int) (hl : l.length ≤ 9223372036854775807) : SemF Try.prog 21 [.slc 0 1 0 l.length] ⟨1, 1, [(0, .arr [.int .i64] .rd (.ints l))]⟩
    (fun v _ => ((v = .bool false ∧ ¬ ∀ n ∈ l, Mg n) ∨ (v = .test (decide ((l.length : Int) ≤ 1000)) ∧ ∀ n ∈ l, Mg n)) ∧ nameless v = true) := by
  refine enter tt_ok Try.func21 (nt := 18) (cd := body Try.f21) rfl rfl rfl rfl ?_
  intro _
  refine loop tt_ok (fun k : { k : Nat // k ≤ l.length ∧ ∀ i, i < k → Mg (l.getD i 0) } => IR l k) (fun k => l.length - k) ⟨0, by omega, fun i h => by omega⟩ ?_ ?_
  · refine ⟨[(0, some 0)], rfl, rfl, rfl, rfl, rfl, rfl, ?_, ?_⟩
    · exact And.intro (And.intro rfl (And.intro rfl rfl)) (And.intro (And.intro rfl (And.intro rfl rfl)) (And.intro rfl (And.intro rfl trivial)))
    · exact And.intro rfl trivial
  · intro ⟨k, hk, hmk⟩
    intro _; refine ⟨fun g => ?_, fun g => ?_⟩
    · have hkl : k < l.length := by simp at g; omega
      have e0 : 0 + ((k : Int)).toNat = k := by omega
      intro _; refine ⟨by simp; omega, ?_⟩
      intro _; refine ⟨by simp [AC.len]; omega, ?_⟩
      intro _
      refine rmargin_ok _ _ _ (fun h1 => ?_) (fun h1 => ?_)
      · intro _
        refine ⟨.inl ⟨rfl, fun hall => ?_⟩, rfl⟩
        have h1 : l.getD (0 + ((k : Int)).toNat) 0 < -1000000000 := h1
        rw [e0] at h1; have := (of_all l hall k hkl).1; omega
      · have h1 : -1000000000 ≤ l.getD (0 + ((k : Int)).toNat) 0 := h1
        rw [e0] at h1
        intro _; refine ⟨fun g2 => ?_, fun g2 => ?_⟩
        · have g2 : (!decide (l.getD (0 + ((k : Int)).toNat) 0 ≤ 1000000000)) = true := g2
          rw [e0, Bool.not_eq_true'] at g2
          intro _
          exact ⟨.inl ⟨rfl, fun hall => of_decide_eq_false g2 (of_all l hall k hkl).2⟩, rfl⟩
        · have g2 : (!decide (l.getD (0 + ((k : Int)).toNat) 0 ≤ 1000000000)) = false := g2
          rw [e0, Bool.not_eq_false'] at g2
          refine ⟨⟨k + 1, by omega, fun i hi => ?_⟩, by simp; omega, [(0, some 0)], rfl, rfl, rfl, rfl, rfl, rfl, ?_, ?_⟩
          · by_cases hik : i = k
            · subst hik; exact ⟨h1, of_decide_eq_true g2⟩
            · exact hmk i (by omega)
          · exact And.intro (And.intro rfl (And.intro rfl rfl)) (And.intro (And.intro rfl (And.intro rfl rfl)) (And.intro rfl (And.intro (show ((k + 1 : Nat) : Int) = IntKind.i64.wrap ((k : Int) + 1) from (wrap_nat k (by omega)).symm) trivial)))
          · exact And.intro rfl trivial
    · have hkl : k = l.length := by simp at g; omega
      subst hkl
      intro _
      exact ⟨.inr ⟨rfl, all_of l hmk⟩, rfl⟩


/-! MarginsOrder -/
theorem le_mx {l : List Int} {n : Int} (h : n ∈ l) : n ≤ mx l := by
  have key : ∀ (l : List Int) (a : Int), a ≤ l.foldl max a ∧ ∀ n ∈ l, n ≤ l.foldl max a := by
    intro l
    induction l with
    | nil => intro a; exact ⟨Int.le_refl _, fun n h => (List.not_mem_nil h).elim⟩
    | cons x l ih =>
      intro a
      obtain ⟨h1, h2⟩ := ih (max a x)
      refine ⟨by simp only [List.foldl_cons]; omega, fun n hn => ?_⟩
      simp only [List.foldl_cons]
      rcases List.mem_cons.1 hn with e | e
      · subst e; omega
      · exact h2 n e
  exact (key l 0).2 n h
theorem mx_le {l : List Int} {m : Int} (h0 : 0 ≤ m) (h : ∀ n ∈ l, n ≤ m) : mx l ≤ m := by
  have key : ∀ (l : List Int) (a : Int), a ≤ m → (∀ n ∈ l, n ≤ m) → l.foldl max a ≤ m := by
    intro l
    induction l with
    | nil => intro a h _; exact h
    | cons x l ih =>
      intro a h1 h2
      simp only [List.foldl_cons]
      have := h2 x (by simp)
      exact ih _ (by omega) (fun n hn => h2 n (by simp [hn]))
  exact key l 0 h0 h
theorem mn_le {l : List Int} {n : Int} (h : n ∈ l) : mn l ≤ n := by
  have key : ∀ (l : List Int) (a : Int), l.foldl min a ≤ a ∧ ∀ n ∈ l, l.foldl min a ≤ n := by
    intro l
    induction l with
    | nil => intro a; exact ⟨Int.le_refl _, fun n h => (List.not_mem_nil h).elim⟩
    | cons x l ih =>
      intro a
      obtain ⟨h1, h2⟩ := ih (min a x)
      refine ⟨by simp only [List.foldl_cons]; omega, fun n hn => ?_⟩
      simp only [List.foldl_cons]
      rcases List.mem_cons.1 hn with e | e
      · subst e; omega
      · exact h2 n e
  exact (key l 0).2 n h
theorem le_mn {l : List Int} {m : Int} (h0 : m ≤ 0) (h : ∀ n ∈ l, m ≤ n) : m ≤ mn l := by
  have key : ∀ (l : List Int) (a : Int), m ≤ a → (∀ n ∈ l, m ≤ n) → m ≤ l.foldl min a := by
    intro l
    induction l with
    | nil => intro a h _; exact h
    | cons x l ih =>
      intro a h1 h2
      simp only [List.foldl_cons]
      have := h2 x (by simp)
      exact ih _ (by omega) (fun n hn => h2 n (by simp [hn]))
  exact key l 0 h0 h
instance decMg (n : Int) : Decidable (Mg n) := inferInstanceAs (Decidable (_ ∧ _))
def jr (l : List Int) : Int × Int := if 4000 < l.length then (0, 2) else if ∀ n ∈ l, Mg n then (mx l + mn l, 0) else (0, 1)
def JV (l : List Int) : V := .tup [.int .i64 (jr l).1, .int .i64 (jr l).2]
theorem jr_long {l : List Int} (h : 4000 < l.length) : JV l = .tup [.int .i64 0, .int .i64 2] := by unfold JV jr; rw [if_pos h]
theorem jr_ok {l : List Int} (h : l.length ≤ 4000) (hm : ∀ n ∈ l, Mg n) : JV l = .tup [.int .i64 (mx l + mn l), .int .i64 0] := by unfold JV jr; rw [if_neg (by omega), if_pos hm]
theorem jr_bad {l : List Int} (h : l.length ≤ 4000) (hm : ¬ ∀ n ∈ l, Mg n) : JV l = .tup [.int .i64 0, .int .i64 1] := by unfold JV jr; rw [if_neg (by omega), if_neg hm]
abbrev Idx (l : List Int) := { k : Nat // k ≤ l.length ∧ ∀ i, i < k → Mg (l.getD i 0) }
theorem idx_succ {l : List Int} {k : Nat} (hm : ∀ i, i < k → Mg (l.getD i 0)) (h : Mg (l.getD k 0)) : ∀ i, i < k + 1 → Mg (l.getD i 0) := fun i hi => by
  by_cases e : i = k
  · subst e; exact h
  · exact hm i (by omega)
theorem join_all (l : List Int) (hl : l.length ≤ 9223372036854775807) : SemF Try.prog 16 [.slc 0 1 0 l.length] ⟨1, 1, [(0, .arr [.int .i64] .rd (.ints l))]⟩
    (fun v _ => v = JV l ∧ nameless v = true) := by
  refine enter tt_ok Try.func16 (nt := 21) (cd := body Try.f16) rfl rfl rfl rfl ?_
  intro _; refine ⟨fun g => ?_, fun g => ?_⟩
  · intro _
    refine ⟨?_, rfl⟩
    have g : decide ((l.length : Int) > 4000) = true := g
    have := of_decide_eq_true g
    exact (jr_long (by omega)).symm
  have hl4 : l.length ≤ 4000 := by
    have g : decide ((l.length : Int) > 4000) = false := g
    have := of_decide_eq_false g; omega
  intro _
  refine loop2 tt_ok [11] [] 1 (fun k : Idx l => [(11, .int .i64 k)]) (fun _ => []) (fun k => l.length - k) ⟨0, by omega, fun i h => by omega⟩ ?_
  intro _
  refine ⟨⟨th [] 1, rfl, rfl, rfl, rfl, rfl, rfl, ?_, ?_⟩, ?_⟩
  · (repeat' first | exact trivial | exact rfl | refine And.intro ?_ ?_)
  · (repeat' first | exact trivial | exact rfl | refine And.intro ?_ ?_)
  · intro ⟨k, hk, hmk⟩
    intro _; refine ⟨fun g => ?_, fun g => ?_⟩
    · have hkl : k < l.length := by simp at g; omega
      have e0 : 0 + ((k : Int)).toNat = k := by omega
      intro _; refine ⟨by simp; omega, ?_⟩
      intro _; refine ⟨by simp [AC.len]; omega, ?_⟩
      intro _
      refine margin_ok _ _ _ (fun h1 => ?_) (fun h1 => ?_)
      · intro _
        refine ⟨?_, rfl⟩
        have h1 : l.getD (0 + ((k : Int)).toNat) 0 < -1000000000 := h1
        rw [e0] at h1
        exact (jr_bad hl4 (fun hall => by have := (of_all l hall k hkl).1; omega)).symm
      · have h1 : -1000000000 ≤ l.getD (0 + ((k : Int)).toNat) 0 := h1
        rw [e0] at h1
        intro _; refine ⟨fun g2 => ?_, fun g2 => ?_⟩
        · have g2 : (!decide (l.getD (0 + ((k : Int)).toNat) 0 ≤ 1000000000)) = true := g2
          rw [e0, Bool.not_eq_true'] at g2
          intro _
          refine ⟨?_, rfl⟩
          exact (jr_bad hl4 (fun hall => of_decide_eq_false g2 (of_all l hall k hkl).2)).symm
        · have g2 : (!decide (l.getD (0 + ((k : Int)).toNat) 0 ≤ 1000000000)) = false := g2
          rw [e0, Bool.not_eq_false'] at g2
          refine ⟨⟨k + 1, by omega, idx_succ hmk ⟨h1, of_decide_eq_true g2⟩⟩, by simp; omega, th [] 1, rfl, rfl, rfl, rfl, rfl, rfl, ?_, ?_⟩
          · (repeat' first | exact trivial | exact rfl | refine And.intro ?_ ?_)
            exact (wrap_nat k (by omega)).symm
          · (repeat' first | exact trivial | exact rfl | refine And.intro ?_ ?_)
    · have hkl : k = l.length := by simp at g; omega
      subst hkl
      have hm := all_of l hmk
      intro _
      refine call_pure [(0, some 0)] (join_ok l (by omega)) rfl rfl rfl ?_ ?_ ?_
      · (repeat' first | exact trivial | exact rfl | refine And.intro ?_ ?_)
      · (repeat' first | exact trivial | exact rfl | refine And.intro ?_ ?_)
      · intro v hv _
        subst hv
        intro _
        refine ⟨?_, rfl⟩
        have b1 := mx_bd l hm
        have b2 := mn_bd l hm
        show V.tup [.int .i64 (IntKind.i64.wrap (hi l l.length + lo l l.length)), .int .i64 0] = _
        rw [jr_ok hl4 hm, hi_all, lo_all]
        have : IntKind.i64.wrap (mx l + mn l) = mx l + mn l := by rw [IntKind.wrap_i64]; omega
        rw [this]
theorem rjoin_all (l : List Int) (hl : l.length ≤ 9223372036854775807) : SemF Try.prog 17 [.slc 0 1 0 l.length] ⟨1, 1, [(0, .arr [.int .i64] .rd (.ints l))]⟩
    (fun v _ => v = JV l ∧ nameless v = true) := by
  refine enter tt_ok Try.func17 (nt := 37) (cd := body Try.f17) rfl rfl rfl rfl ?_
  intro _; refine ⟨fun g => ?_, fun g => ?_⟩
  · intro _
    refine ⟨?_, rfl⟩
    have g : decide ((l.length : Int) > 4000) = true := g
    have := of_decide_eq_true g
    exact (jr_long (by omega)).symm
  have hl4 : l.length ≤ 4000 := by
    have g : decide ((l.length : Int) > 4000) = false := g
    have := of_decide_eq_false g; omega
  intro _
  refine loop2 tt_ok [4, 5, 6] [] 1 (fun k : Idx l => [(4, .int .i64 (hi l k)), (5, .int .i64 (lo l k)), (6, .int .i64 k)]) (fun _ => []) (fun k => l.length - k) ⟨0, by omega, fun i h => by omega⟩ ?_
  intro _
  refine ⟨⟨th [] 1, rfl, rfl, rfl, rfl, rfl, rfl, ?_, ?_⟩, ?_⟩
  · (repeat' first | exact trivial | exact rfl | refine And.intro ?_ ?_)
  · (repeat' first | exact trivial | exact rfl | refine And.intro ?_ ?_)
  · intro ⟨k, hk, hmk⟩
    intro _; refine ⟨fun g => ?_, fun g => ?_⟩
    · have hkl : k < l.length := by simp at g; omega
      have e0 : 0 + ((k : Int)).toNat = k := by omega
      intro _; refine ⟨by simp; omega, ?_⟩
      intro _; refine ⟨by simp [AC.len]; omega, ?_⟩
      intro _
      refine rmargin_ok _ _ _ (fun h1 => ?_) (fun h1 => ?_)
      · intro _
        refine ⟨?_, rfl⟩
        have h1 : l.getD (0 + ((k : Int)).toNat) 0 < -1000000000 := h1
        rw [e0] at h1
        exact (jr_bad hl4 (fun hall => by have := (of_all l hall k hkl).1; omega)).symm
      · have h1 : -1000000000 ≤ l.getD (0 + ((k : Int)).toNat) 0 := h1
        rw [e0] at h1
        intro _; refine ⟨fun g2 => ?_, fun g2 => ?_⟩
        · have g2 : (!decide (l.getD (0 + ((k : Int)).toNat) 0 ≤ 1000000000)) = true := g2
          rw [e0, Bool.not_eq_true'] at g2
          intro _
          refine ⟨?_, rfl⟩
          exact (jr_bad hl4 (fun hall => of_decide_eq_false g2 (of_all l hall k hkl).2)).symm
        · have g2 : (!decide (l.getD (0 + ((k : Int)).toNat) 0 ≤ 1000000000)) = false := g2
          rw [e0, Bool.not_eq_false'] at g2
          intro _; refine ⟨by simp; omega, ?_⟩
          intro _; refine ⟨by simp [AC.len]; omega, ?_⟩
          intro _; refine ⟨by simp; omega, ?_⟩
          intro _; refine ⟨by simp [AC.len]; omega, ?_⟩
          have e1 := hi_succ l k hkl
          have e2 := lo_succ l k hkl
          refine ⟨⟨k + 1, by omega, idx_succ hmk ⟨h1, of_decide_eq_true g2⟩⟩, by simp; omega, th [] 1, rfl, rfl, rfl, rfl, rfl, rfl, ?_, ?_⟩
          · (repeat' first | exact trivial | exact rfl | refine And.intro ?_ ?_)
            · show hi l (k + 1) = max (hi l k) (l.getD (0 + ((k : Int)).toNat) 0)
              rw [e0]; exact e1
            · show lo l (k + 1) = min (lo l k) (l.getD (0 + ((k : Int)).toNat) 0)
              rw [e0]; exact e2
            · exact (wrap_nat k (by omega)).symm
          · (repeat' first | exact trivial | exact rfl | refine And.intro ?_ ?_)
    · have hkl : k = l.length := by simp at g; omega
      subst hkl
      have hm := all_of l hmk
      intro _
      refine ⟨?_, rfl⟩
      have b1 := mx_bd l hm
      have b2 := mn_bd l hm
      show V.tup [.int .i64 (IntKind.i64.wrap (hi l l.length + lo l l.length)), .int .i64 0] = _
      rw [jr_ok hl4 hm, hi_all, lo_all]
      have : IntKind.i64.wrap (mx l + mn l) = mx l + mn l := by rw [IntKind.wrap_i64]; omega
      rw [this]
/-- SameInts -/
theorem same_all (a b : List Int) (ha : a.length ≤ 9223372036854775807) (hb : b.length ≤ 9223372036854775807) : SemF Try.prog 20 [.slc 0 1 0 a.length, .slc 1 1 0 b.length] ⟨2, 2, [(0, .arr [.int .i64] .rd (.ints a)), (1, .arr [.int .i64] .rd (.ints b))]⟩
    (fun v _ => v = .bool (decide (a = b)) ∧ nameless v = true) := by
  refine enter tt_ok Try.func20 (nt := 26) (cd := body Try.f20) rfl rfl rfl rfl ?_
  intro _; refine ⟨fun g => ?_, fun g => ?_⟩
  · intro _
    refine ⟨?_, rfl⟩
    have g : ((a.length : Int) != (b.length : Int)) = true := g
    have : a ≠ b := fun e => by subst e; simp at g
    rw [decide_eq_false this]
  have hab : a.length = b.length := by
    have g : ((a.length : Int) != (b.length : Int)) = false := g
    have g2 := g; simp at g2; omega
  intro _
  refine loop2 tt_ok [5] [] 2 (fun k : { k : Nat // k ≤ a.length ∧ ∀ i, i < k → a.getD i 0 = b.getD i 0 } => [(5, .int .i64 k)]) (fun _ => []) (fun k => a.length - k) ⟨0, by omega, fun i h => by omega⟩ ?_
  intro _
  refine ⟨⟨th [] 2, rfl, rfl, rfl, rfl, rfl, rfl, ?_, ?_⟩, ?_⟩
  · (repeat' first | exact trivial | exact rfl | refine And.intro ?_ ?_)
  · (repeat' first | exact trivial | exact rfl | refine And.intro ?_ ?_)
  · intro ⟨k, hk, hmk⟩
    intro _; refine ⟨fun g => ?_, fun g => ?_⟩
    · have hkl : k < a.length := by simp at g; omega
      have e0 : 0 + ((k : Int)).toNat = k := by omega
      intro _; refine ⟨by simp; omega, ?_⟩
      intro _; refine ⟨by simp [AC.len]; omega, ?_⟩
      intro _; refine ⟨by simp; omega, ?_⟩
      intro _; refine ⟨by simp [AC.len]; omega, ?_⟩
      intro _; refine ⟨by kernel_rfl, ?_⟩
      intro _; refine ⟨fun g2 => ?_, fun g2 => ?_⟩
      · have g2 : (a.getD (0 + ((k : Int)).toNat) 0 != b.getD (0 + ((k : Int)).toNat) 0) = true := g2
        rw [e0] at g2
        intro _
        refine ⟨?_, rfl⟩
        have : a ≠ b := fun e => by subst e; simp at g2
        rw [decide_eq_false this]
      · have g2 : (a.getD (0 + ((k : Int)).toNat) 0 != b.getD (0 + ((k : Int)).toNat) 0) = false := g2
        rw [e0] at g2
        refine ⟨⟨k + 1, by omega, fun i hi => ?_⟩, by simp; omega, th [] 2, rfl, rfl, rfl, rfl, rfl, rfl, ?_, ?_⟩
        · by_cases e : i = k
          · subst e; simpa using g2
          · exact hmk i (by omega)
        · (repeat' first | exact trivial | exact rfl | refine And.intro ?_ ?_)
          exact (wrap_nat k (by omega)).symm
        · (repeat' first | exact trivial | exact rfl | refine And.intro ?_ ?_)
    · have hkl : k = a.length := by simp at g; omega
      subst hkl
      intro _
      refine ⟨?_, rfl⟩
      have : a = b := by
        refine List.ext_getElem hab (fun i h1 h2 => ?_)
        have := hmk i h1
        rw [List.getD_eq_getElem?_getD, List.getD_eq_getElem?_getD, List.getElem?_eq_getElem h1, List.getElem?_eq_getElem h2] at this
        exact this
      rw [decide_eq_true this]
theorem margin_test (n : Int) (h : H) (K : V → H → Prop) (hK : K (.test (decide (Mg n))) h) : SemF Try.prog 33 [.int .i64 n] h K := by
  refine SemF.test (margin_ok _ _ _ (fun h1 => ⟨false, .inl rfl, ?_⟩) (fun h1 => ⟨_, .inr rfl, ?_⟩))
  · have : decide (Mg n) = false := decide_eq_false (fun m => by have := m.1; omega)
    rw [← this]; exact hK
  · have : decide (Mg n) = decide (n ≤ 1000000000) := by
      by_cases e : n ≤ 1000000000
      · rw [decide_eq_true e, decide_eq_true (show Mg n from ⟨h1, e⟩)]
      · rw [decide_eq_false e, decide_eq_false (fun m => e m.2)]
    rw [← this]; exact hK
theorem rmargin_test (n : Int) (h : H) (K : V → H → Prop) (hK : K (.test (decide (Mg n))) h) : SemF Try.prog 22 [.int .i64 n] h K := by
  refine SemF.test (rmargin_ok _ _ _ (fun h1 => ⟨false, .inl rfl, ?_⟩) (fun h1 => ⟨_, .inr rfl, ?_⟩))
  · have : decide (Mg n) = false := decide_eq_false (fun m => by have := m.1; omega)
    rw [← this]; exact hK
  · have : decide (Mg n) = decide (n ≤ 1000000000) := by
      by_cases e : n ≤ 1000000000
      · rw [decide_eq_true e, decide_eq_true (show Mg n from ⟨h1, e⟩)]
      · rw [decide_eq_false e, decide_eq_false (fun m => e m.2)]
    rw [← this]; exact hK
abbrev Rows := List (List D)
def ab (l : Rows) (i : Nat) : Int := ((l.getD i []).getD 0 (.n 0)).int
def be (l : Rows) (i : Nat) : Int := ((l.getD i []).getD 1 (.n 0)).int
def hh (l : Rows) (i : Nat) : Int := ((l.getD i []).getD 2 (.n 0)).int
def Good (l : Rows) (i : Nat) : Prop := Mg (ab l i) ∧ Mg (be l i) ∧ 0 ≤ hh l i ∧ hh l i ≤ 1000000000
instance (l : Rows) (i : Nat) : Decidable (Good l i) := inferInstanceAs (Decidable (_ ∧ _))
def bl (l : Rows) : Nat → Int
  | 0 => 0
  | i + 1 => be l i
def jn (a b : Int) : Int := mx [a, b] + mn [a, b]
def btw (l : Rows) (k : Nat) : List Int := (List.range k).map fun i => jn (bl l i) (ab l i)
def AllGood (l : Rows) : Prop := ∀ i, i < l.length → Good l i
instance (l : Rows) : Decidable (AllGood l) := Nat.decidableBallLT _ _
def br (l : Rows) : List Int × Int := if 4000 < l.length then ([], 2) else if AllGood l then (btw l (l.length + 1), 0) else ([], 1)
def K3 : List CK := [.int .i64, .int .i64, .int .i64]
abbrev IdxR (l : Rows) := { k : Nat // k ≤ l.length ∧ ∀ i, i < k → Good l i }
/-- what Between comes to -/
def BQ (l : Rows) : V → H → Prop := fun v h' => v = .tup [.grw 1 (br l).1.length, .int .i64 (br l).2] ∧ h' = ⟨2, 1, [(1, .arr [.int .i64] .grow (.ints (br l).1))]⟩
theorem btw_len (l : Rows) (k : Nat) : (btw l k).length = k := by simp [btw]
theorem btw_succ (l : Rows) (k : Nat) : btw l (k + 1) = btw l k ++ [jn (bl l k) (ab l k)] := by simp [btw, List.range_succ]
theorem mg0 : Mg 0 := ⟨by omega, by omega⟩
theorem bl_mg {l : Rows} (h : AllGood l) {k : Nat} (hk : k ≤ l.length) : Mg (bl l k) := by
  cases k with
  | zero => exact mg0
  | succ k => exact (h k (by omega)).2.1
theorem ab_out {l : Rows} {k : Nat} (hk : l.length ≤ k) : ab l k = 0 := by
  have : l.getD k [] = [] := by rw [List.getD_eq_getElem?_getD, List.getElem?_eq_none hk]; rfl
  unfold ab; rw [this]; rfl
theorem ab_mg {l : Rows} (h : AllGood l) (k : Nat) : Mg (ab l k) := by
  rcases Nat.lt_or_ge k l.length with e | e
  · exact (h k e).1
  · rw [ab_out e]; exact mg0
theorem jn_wrap {a b : Int} (ha : Mg a) (hb : Mg b) : IntKind.i64.wrap (hi [a, b] [a, b].length + lo [a, b] [a, b].length) = jn a b := by
  have h : ∀ n ∈ [a, b], Mg n := fun n hn => by
    rcases List.mem_cons.1 hn with e | e
    · rw [e]; exact ha
    · rcases List.mem_cons.1 e with e | e
      · rw [e]; exact hb
      · exact (List.not_mem_nil e).elim
  have b1 := mx_bd _ h
  have b2 := mn_bd _ h
  rw [hi_all, lo_all]
  show _ = mx [a, b] + mn [a, b]
  rw [IntKind.wrap_i64]; omega
theorem between_all (l : Rows) (hl : l.length ≤ 9223372036854775807) : SemF Try.prog 18 [.slc 0 3 0 l.length] ⟨1, 1, [(0, .arr [.int .i64, .int .i64, .int .i64] .rd (.recs l))]⟩ (BQ l) := by
  refine SemF.ret ?_
  refine enter tt_ok Try.func18 (nt := 51) (cd := body Try.f18) rfl rfl rfl rfl ?_
  intro _; refine ⟨fun g => ?_, fun g => ?_⟩
  · have g : decide ((l.length : Int) > 4000) = true := g
    have := of_decide_eq_true g
    have e : br l = ([], 2) := by unfold br; rw [if_pos (by omega)]
    intro _
    refine ⟨[(1, none)], .tup [.grw 1 0, .int .i64 2], ⟨2, 1, [(1, .arr [.int .i64] .grow (.ints []))]⟩, rfl, rfl, rfl, rfl, ?_, ?_, ?_, ?_⟩
    · (repeat' first | exact trivial | exact rfl | refine And.intro ?_ ?_)
    · (repeat' first | exact trivial | exact rfl | refine And.intro ?_ ?_)
    · rw [e]; rfl
    · rw [e]
  have hl4 : l.length ≤ 4000 := by
    have g : decide ((l.length : Int) > 4000) = false := g
    have := of_decide_eq_false g; omega
  intro _
  refine loop2 tt_ok [14] [] 1 (fun k : IdxR l => [(14, .int .i64 k)]) (fun _ => []) (fun k => l.length - k) ⟨0, by omega, fun i h => by omega⟩ ?_
  intro _
  refine ⟨⟨th [] 1, rfl, rfl, rfl, rfl, rfl, rfl, ?_, ?_⟩, ?_⟩
  · (repeat' first | exact trivial | exact rfl | refine And.intro ?_ ?_)
  · (repeat' first | exact trivial | exact rfl | refine And.intro ?_ ?_)
  · intro ⟨k, hk, hmk⟩
    intro _; refine ⟨fun g => ?_, fun g => ?_⟩
    · have hkl : k < l.length := by simp at g; omega
      have e0 : 0 + ((k : Int)).toNat = k := by omega
      intro _; refine ⟨by simp; omega, ?_⟩
      intro _; refine ⟨by simp [AC.len]; omega, ?_⟩
      intro _
      have eA : ((l.getD (0 + ((k : Int)).toNat) []).getD 0 (D.n 0)).int = ab l k := by rw [e0]; rfl
      have eB : ((l.getD (0 + ((k : Int)).toNat) []).getD (0 + 1) (D.n 0)).int = be l k := by rw [e0]; rfl
      have eH : ((l.getD (0 + ((k : Int)).toNat) []).getD (0 + 1 + 1) (D.n 0)).int = hh l k := by rw [e0]; rfl
      have bad : ¬ Good l k → ∀ hx : List (Nat × Ob), Ret 1 (BQ l) (.tup [.nils, .int .i64 1]) ⟨2, 1, hx⟩ := fun hb hx => by
        have e : br l = ([], 1) := by unfold br; rw [if_neg (by omega), if_neg (fun h => hb (h k hkl))]
        refine ⟨[(1, none)], .tup [.grw 1 0, .int .i64 1], ⟨2, 1, [(1, .arr [.int .i64] .grow (.ints []))]⟩, rfl, rfl, rfl, rfl, ?_, ?_, ?_, ?_⟩
        · (repeat' first | exact trivial | exact rfl | refine And.intro ?_ ?_)
        · (repeat' first | exact trivial | exact rfl | refine And.intro ?_ ?_)
        · rw [e]; rfl
        · rw [e]
      refine margin_test _ _ _ ?_
      intro _; refine ⟨fun g1 => ?_, fun g1 => ?_⟩
      · have g1 : (!decide (Mg ((l.getD (0 + ((k : Int)).toNat) []).getD 0 (D.n 0)).int)) = true := g1
        rw [eA, Bool.not_eq_true'] at g1
        intro _
        exact bad (fun h => of_decide_eq_false g1 h.1) _
      · have g1 : (!decide (Mg ((l.getD (0 + ((k : Int)).toNat) []).getD 0 (D.n 0)).int)) = false := g1
        rw [eA, Bool.not_eq_false'] at g1
        intro _
        refine margin_test _ _ _ ?_
        intro _; refine ⟨fun g2 => ?_, fun g2 => ?_⟩
        · have g2 : (!decide (Mg ((l.getD (0 + ((k : Int)).toNat) []).getD (0 + 1) (D.n 0)).int)) = true := g2
          rw [eB, Bool.not_eq_true'] at g2
          intro _
          exact bad (fun h => of_decide_eq_false g2 h.2.1) _
        · have g2 : (!decide (Mg ((l.getD (0 + ((k : Int)).toNat) []).getD (0 + 1) (D.n 0)).int)) = false := g2
          rw [eB, Bool.not_eq_false'] at g2
          intro _; refine ⟨fun g3 => ?_, fun g3 => ?_⟩
          · have g3 : decide (((l.getD (0 + ((k : Int)).toNat) []).getD (0 + 1 + 1) (D.n 0)).int < 0) = true := g3
            rw [eH] at g3
            have g3 := of_decide_eq_true g3
            intro _
            exact bad (fun h => by have := h.2.2.1; omega) _
          · have g3 : decide (((l.getD (0 + ((k : Int)).toNat) []).getD (0 + 1 + 1) (D.n 0)).int < 0) = false := g3
            rw [eH] at g3
            have g3 := of_decide_eq_false g3
            intro _; refine ⟨fun g4 => ?_, fun g4 => ?_⟩
            · have g4 : decide (((l.getD (0 + ((k : Int)).toNat) []).getD (0 + 1 + 1) (D.n 0)).int > 1000000000) = true := g4
              rw [eH] at g4
              have g4 := of_decide_eq_true g4
              intro _
              exact bad (fun h => by have := h.2.2.2; omega) _
            · have g4 : decide (((l.getD (0 + ((k : Int)).toNat) []).getD (0 + 1 + 1) (D.n 0)).int > 1000000000) = false := g4
              rw [eH] at g4
              have g4 := of_decide_eq_false g4
              refine ⟨⟨k + 1, by omega, fun i hi => ?_⟩, by simp; omega, th [] 1, rfl, rfl, rfl, rfl, rfl, rfl, ?_, ?_⟩
              · by_cases e : i = k
                · subst e; exact ⟨of_decide_eq_true g1, of_decide_eq_true g2, by omega, by omega⟩
                · exact hmk i (by omega)
              · (repeat' first | exact trivial | exact rfl | refine And.intro ?_ ?_)
                exact (wrap_nat k (by omega)).symm
              · (repeat' first | exact trivial | exact rfl | refine And.intro ?_ ?_)
    · have hkl : k = l.length := by simp at g; omega
      subst hkl
      have e : br l = (btw l (l.length + 1), 0) := by unfold br; rw [if_neg (by omega), if_pos (show AllGood l from hmk)]
      intro _
      refine enter tt_ok Try.func35 (nt := 4) (cd := body Try.f35) rfl rfl rfl rfl ?_
      intro _
      intro _
      refine range_ok ?_
      intro _
      refine enter tt_ok Try.func44 (nt := 24) (cd := body Try.f44) rfl rfl rfl rfl ?_
      intro _
      refine loop2 tt_ok [3, 8] [1] 6 (fun k : Fin (l.length + 1) => [(3, .int .i64 (bl l k)), (8, .int .i64 (k : Nat))]) (fun k => [(1, .cells [.grw 5 k]), (5, .arr [.int .i64] .grow (.ints (btw l k)))]) (fun k => l.length - k) ⟨0, by omega⟩ ?_
      intro _
      refine ⟨⟨th [(5, none)] 6, rfl, rfl, rfl, rfl, rfl, rfl, ?_, ?_⟩, ?_⟩
      · (repeat' first | exact trivial | exact rfl | refine And.intro ?_ ?_)
      · (repeat' first | exact trivial | exact rfl | refine And.intro ?_ ?_)
      · intro ⟨k, hk⟩
        intro _; refine ⟨fun g => ?_, fun g => ?_⟩
        · have hkl : k < l.length := by simp at g; omega
          have e0 : 0 + ((k : Int)).toNat = k := by omega
          intro _; refine ⟨by simp; omega, ?_⟩
          intro _; refine ⟨by simp [AC.len]; omega, ?_⟩
          intro _
          refine yield_ok tt_ok ?_
          intro _
          refine Or.inl ?_
          intro _
          refine call_pure [(0, some 7)] (join_ok [bl l k, ((l.getD (0 + ((k : Int)).toNat) []).getD 0 (D.n 0)).int] (by simp)) rfl rfl rfl ?_ ?_ ?_
          · (repeat' first | exact trivial | exact rfl | refine And.intro ?_ ?_)
          · (repeat' first | exact trivial | exact rfl | refine And.intro ?_ ?_)
          · intro v hv _
            subst hv
            intro _
            refine Or.inr ?_
            intro _
            refine ⟨rfl, ?_⟩
            intro _
            refine ⟨fun g3 => by simp at g3, fun _ => ?_⟩
            refine ⟨⟨show k = (btw l k).length by simp [btw], by simp; omega, by simp; omega⟩, ?_⟩
            intro _
            refine ⟨by kernel_rfl, ?_⟩
            intro _
            refine ⟨⟨k + 1, by omega⟩, by simp; omega, th [(5, some 9)] 6, rfl, rfl, rfl, rfl, rfl, rfl, ?_, ?_⟩
            · (repeat' first | exact trivial | exact rfl | refine And.intro ?_ ?_)
              · show be l k = ((l.getD (0 + ((k : Int)).toNat) []).getD (0 + 1) (D.n 0)).int
                rw [e0]; rfl
              · exact (wrap_nat k (by omega)).symm
            · (repeat' first | exact trivial | exact rfl | refine And.intro ?_ ?_)
              show btw l (k + 1) = btw l k ++ [IntKind.i64.wrap (hi [bl l k, ((l.getD (0 + ((k : Int)).toNat) []).getD 0 (D.n 0)).int] [bl l k, ((l.getD (0 + ((k : Int)).toNat) []).getD 0 (D.n 0)).int].length + lo [bl l k, ((l.getD (0 + ((k : Int)).toNat) []).getD 0 (D.n 0)).int] [bl l k, ((l.getD (0 + ((k : Int)).toNat) []).getD 0 (D.n 0)).int].length)]
              have eA : ((l.getD (0 + ((k : Int)).toNat) []).getD 0 (D.n 0)).int = ab l k := by rw [e0]; rfl
              rw [eA, jn_wrap (bl_mg hmk (by omega)) (ab_mg hmk k), btw_succ]
        · have hkl : k = l.length := by simp at g; omega
          subst hkl
          intro _
          refine yield_ok tt_ok ?_
          intro _
          refine Or.inl ?_
          intro _
          refine call_pure [(0, some 6)] (join_ok [bl l l.length, 0] (by simp)) rfl rfl rfl ?_ ?_ ?_
          · (repeat' first | exact trivial | exact rfl | refine And.intro ?_ ?_)
          · (repeat' first | exact trivial | exact rfl | refine And.intro ?_ ?_)
          · intro v hv _
            subst hv
            intro _
            refine Or.inr ?_
            intro _
            refine ⟨rfl, ?_⟩
            intro _
            refine ⟨fun g3 => by simp at g3, fun _ => ?_⟩
            refine ⟨⟨(btw_len l l.length).symm, by simp; omega, by simp; omega⟩, ?_⟩
            intro _
            refine ⟨by kernel_rfl, ?_⟩
            intro _
            intro _
            intro _
            have e2 : btw l (l.length + 1) = btw l l.length ++ [IntKind.i64.wrap (hi [bl l l.length, 0] [bl l l.length, 0].length + lo [bl l l.length, 0] [bl l l.length, 0].length)] := by
              rw [jn_wrap (bl_mg hmk (Nat.le_refl _)) mg0, btw_succ, ab_out (Nat.le_refl _)]
            refine ⟨[(1, some 8)], .tup [.grw 1 (br l).1.length, .int .i64 (br l).2], ⟨2, 1, [(1, .arr [.int .i64] .grow (.ints (br l).1))]⟩, rfl, rfl, rfl, rfl, ?_, ?_, ⟨rfl, rfl⟩⟩
            · rw [e]
              (repeat' first | exact trivial | exact rfl | refine And.intro ?_ ?_)
              exact btw_len l _
            · rw [e]
              (repeat' first | exact trivial | exact rfl | refine And.intro ?_ ?_)
              exact e2
def GoodI (a b c : Int) : Prop := Mg a ∧ Mg b ∧ 0 ≤ c ∧ c ≤ 1000000000
instance (a b c : Int) : Decidable (GoodI a b c) := inferInstanceAs (Decidable (_ ∧ _))
theorem item_test (a b c : Int) : SemF Try.prog 36 [.agg [.int .i64 a, .int .i64 b, .int .i64 c]] ⟨0, 0, []⟩ (fun v _ => v = .test (decide (GoodI a b c)) ∧ nameless v = true) := by
  refine SemF.test ?_
  refine enter tt_ok Try.func36 (nt := 21) (cd := body Try.f36) rfl rfl rfl rfl ?_
  have no : ¬ GoodI a b c → ∀ K : V → H → Prop, ∀ h : H, (K (.test (decide (GoodI a b c))) h) → ∃ q, (V.bool false = .bool q ∨ V.bool false = .test q) ∧ K (.test q) h := fun hn K h hk => ⟨false, .inl rfl, by rw [decide_eq_false hn] at hk; exact hk⟩
  intro _
  refine rmargin_test _ _ _ ?_
  intro _; refine ⟨fun g1 => ?_, fun g1 => ?_⟩
  · have g1 := of_decide_eq_true (show decide (Mg a) = true from g1)
    intro _
    refine rmargin_test _ _ _ ?_
    intro _; refine ⟨fun g2 => ?_, fun g2 => ?_⟩
    · have g2 := of_decide_eq_true (show decide (Mg b) = true from g2)
      intro _; refine ⟨fun g3 => ?_, fun g3 => ?_⟩
      · have g3 := of_decide_eq_true (show decide (c ≥ 0) = true from g3)
        intro _
        refine ⟨decide (c ≤ 1000000000), .inr rfl, ?_, rfl⟩
        have : decide (c ≤ 1000000000) = decide (GoodI a b c) := by
          by_cases e : c ≤ 1000000000
          · rw [decide_eq_true e, decide_eq_true (show GoodI a b c from ⟨g1, g2, g3, e⟩)]
          · rw [decide_eq_false e, decide_eq_false (fun m : GoodI a b c => e m.2.2.2)]
        rw [this]
      · have g3 := of_decide_eq_false (show decide (c ≥ 0) = false from g3)
        intro _
        exact ⟨false, .inl rfl, by rw [decide_eq_false (fun m : GoodI a b c => g3 m.2.2.1)], rfl⟩
    · have g2 := of_decide_eq_false (show decide (Mg b) = false from g2)
      intro _
      exact ⟨false, .inl rfl, by rw [decide_eq_false (fun m : GoodI a b c => g2 m.2.1)], rfl⟩
  · have g1 := of_decide_eq_false (show decide (Mg a) = false from g1)
    intro _
    exact ⟨false, .inl rfl, by rw [decide_eq_false (fun m : GoodI a b c => g1 m.1)], rfl⟩
theorem jr_fst {l : List Int} (h : l.length ≤ 4000) (hm : ∀ n ∈ l, Mg n) : (jr l).1 = mx l + mn l := by unfold jr; rw [if_neg (by omega), if_pos hm]
theorem mg1 {a : Int} (ha : Mg a) : ∀ n ∈ [a], Mg n := fun n hn => by
  rcases List.mem_cons.1 hn with e | e
  · rw [e]; exact ha
  · exact (List.not_mem_nil e).elim
theorem mg2 {a b : Int} (ha : Mg a) (hb : Mg b) : ∀ n ∈ [a, b], Mg n := fun n hn => by
  rcases List.mem_cons.1 hn with e | e
  · rw [e]; exact ha
  · exact mg1 hb n e
theorem jr_both {a b : Int} (ha : Mg a) (hb : Mg b) : (jr [a, b]).1 = jn a b := jr_fst (by simp) (mg2 ha hb)
theorem jr_left {a : Int} (ha : Mg a) : (jr [a]).1 = jn a 0 := by
  rw [jr_fst (by simp) (mg1 ha)]
  simp only [jn, mx, mn, List.foldl_cons, List.foldl_nil]; omega
theorem jr_right {a : Int} (ha : Mg a) : (jr [a]).1 = jn 0 a := by
  rw [jr_fst (by simp) (mg1 ha)]
  simp only [jn, mx, mn, List.foldl_cons, List.foldl_nil]; omega
theorem jr_none : (jr []).1 = jn 0 0 := by
  rw [jr_fst (by simp) (fun n h => (List.not_mem_nil h).elim)]
  simp [jn, mx, mn]
theorem rbetween_all (l : Rows) (hl : l.length ≤ 9223372036854775806) : SemF Try.prog 19 [.slc 0 3 0 l.length] ⟨1, 1, [(0, .arr [.int .i64, .int .i64, .int .i64] .rd (.recs l))]⟩ (BQ l) := by
  refine SemF.ret ?_
  refine enter tt_ok Try.func19 (nt := 64) (cd := body Try.f19) rfl rfl rfl rfl ?_
  intro _; refine ⟨fun g => ?_, fun g => ?_⟩
  · have g : decide ((l.length : Int) > 4000) = true := g
    have := of_decide_eq_true g
    have e : br l = ([], 2) := by unfold br; rw [if_pos (by omega)]
    intro _
    refine ⟨[(1, none)], .tup [.grw 1 0, .int .i64 2], ⟨2, 1, [(1, .arr [.int .i64] .grow (.ints []))]⟩, rfl, rfl, rfl, rfl, ?_, ?_, ?_, ?_⟩
    · (repeat' first | exact trivial | exact rfl | refine And.intro ?_ ?_)
    · (repeat' first | exact trivial | exact rfl | refine And.intro ?_ ?_)
    · rw [e]; rfl
    · rw [e]
  have hl4 : l.length ≤ 4000 := by
    have g : decide ((l.length : Int) > 4000) = false := g
    have := of_decide_eq_false g; omega
  intro _
  refine loop2 tt_ok [4] [] 1 (fun k : IdxR l => [(4, .int .i64 k)]) (fun _ => []) (fun k => l.length - k) ⟨0, by omega, fun i h => by omega⟩ ?_
  intro _
  refine ⟨⟨th [] 1, rfl, rfl, rfl, rfl, rfl, rfl, ?_, ?_⟩, ?_⟩
  · (repeat' first | exact trivial | exact rfl | refine And.intro ?_ ?_)
  · (repeat' first | exact trivial | exact rfl | refine And.intro ?_ ?_)
  · intro ⟨k, hk, hmk⟩
    intro _; refine ⟨fun g => ?_, fun g => ?_⟩
    · have hkl : k < l.length := by simp at g; omega
      have e0 : 0 + ((k : Int)).toNat = k := by omega
      intro _; refine ⟨by simp; omega, ?_⟩
      intro _; refine ⟨by simp [AC.len]; omega, ?_⟩
      intro _
      refine call_pure [] (item_test (ab l k) (be l k) (hh l k)) rfl rfl rfl ?_ ?_ ?_
      · (repeat' first | exact trivial | exact rfl | refine And.intro ?_ ?_)
      · (repeat' first | exact trivial | exact rfl | refine And.intro ?_ ?_)
        · show ab l k = ((l.getD (0 + ((k : Int)).toNat) []).getD 0 (D.n 0)).int
          rw [e0]; rfl
        · show be l k = ((l.getD (0 + ((k : Int)).toNat) []).getD (0 + 1) (D.n 0)).int
          rw [e0]; rfl
        · show hh l k = ((l.getD (0 + ((k : Int)).toNat) []).getD (0 + 1 + 1) (D.n 0)).int
          rw [e0]; rfl
      · intro v hv _
        subst hv
        intro _; refine ⟨fun g1 => ?_, fun g1 => ?_⟩
        · have g1 : (!decide (Good l k)) = true := g1
          rw [Bool.not_eq_true'] at g1
          have g1 := of_decide_eq_false g1
          have e : br l = ([], 1) := by unfold br; rw [if_neg (by omega), if_neg (fun h => g1 (h k hkl))]
          intro _
          refine ⟨[(1, none)], .tup [.grw 1 0, .int .i64 1], ⟨2, 1, [(1, .arr [.int .i64] .grow (.ints []))]⟩, rfl, rfl, rfl, rfl, ?_, ?_, ?_, ?_⟩
          · (repeat' first | exact trivial | exact rfl | refine And.intro ?_ ?_)
          · (repeat' first | exact trivial | exact rfl | refine And.intro ?_ ?_)
          · rw [e]; rfl
          · rw [e]
        · have g1 : (!decide (Good l k)) = false := g1
          rw [Bool.not_eq_false'] at g1
          have g1 := of_decide_eq_true g1
          refine ⟨⟨k + 1, by omega, fun i hi => ?_⟩, by simp; omega, th [] 1, rfl, rfl, rfl, rfl, rfl, rfl, ?_, ?_⟩
          · by_cases e : i = k
            · subst e; exact g1
            · exact hmk i (by omega)
          · (repeat' first | exact trivial | exact rfl | refine And.intro ?_ ?_)
            exact (wrap_nat k (by omega)).symm
          · (repeat' first | exact trivial | exact rfl | refine And.intro ?_ ?_)
    · have hkl : k = l.length := by simp at g; omega
      subst hkl
      have e : br l = (btw l (l.length + 1), 0) := by unfold br; rw [if_neg (by omega), if_pos (show AllGood l from hmk)]
      intro _
      refine loop2 tt_ok [5, 6] [1] 2 (fun k : Fin (l.length + 2) => [(5, .grw 1 k), (6, .int .i64 (k : Nat))]) (fun k => [(1, .arr [.int .i64] .grow (.ints (btw l k)))]) (fun k => l.length + 1 - k) ⟨0, by omega⟩ ?_
      intro _
      refine ⟨⟨th [(1, none)] 2, rfl, rfl, rfl, rfl, rfl, rfl, ?_, ?_⟩, ?_⟩
      · (repeat' first | exact trivial | exact rfl | refine And.intro ?_ ?_)
      · (repeat' first | exact trivial | exact rfl | refine And.intro ?_ ?_)
      · intro ⟨k, hk⟩
        intro _; refine ⟨fun g => ?_, fun g => ?_⟩
        · have hkl : k ≤ l.length := by simp at g; omega
          have e0 : 0 + ((k : Int)).toNat = k := by omega
          intro _; refine ⟨fun g1 => ?_, fun g1 => ?_⟩
          · have g1 := of_decide_eq_true (show decide ((k : Int) > 0) = true from g1)
            have eW : IntKind.i64.wrap ((k : Int) - 1) = ((k - 1 : Nat) : Int) := by rw [IntKind.wrap_i64]; omega
            have eB : ((l.getD (0 + (IntKind.i64.wrap ((k : Int) - 1)).toNat) []).getD 1 (D.n 0)).int = bl l k := by
              rw [eW]
              have : 0 + (((k - 1 : Nat) : Int)).toNat = k - 1 := by omega
              rw [this]
              cases k with
              | zero => omega
              | succ k => rfl
            intro _; refine ⟨show 0 ≤ IntKind.i64.wrap ((k : Int) - 1) ∧ IntKind.i64.wrap ((k : Int) - 1) < l.length by rw [eW]; omega, ?_⟩
            intro _; refine ⟨show 0 + (IntKind.i64.wrap ((k : Int) - 1)).toNat < l.length by rw [eW]; omega, ?_⟩
            intro _; refine ⟨rfl, ?_⟩
            intro _; refine ⟨fun g3 => by simp at g3, fun _ => ?_⟩
            refine ⟨⟨by simp, by simp⟩, ?_⟩
            intro _; refine ⟨fun g2 => ?_, fun g2 => ?_⟩
            · have g2 := of_decide_eq_true (show decide ((k : Int) < (l.length : Int)) = true from g2)
              intro _; refine ⟨by simp; omega, ?_⟩
              intro _; refine ⟨show 0 + (k : Int).toNat < l.length by omega, ?_⟩
              intro _; refine ⟨rfl, ?_⟩
              intro _; refine ⟨fun g3 => by simp at g3, fun _ => ?_⟩
              refine ⟨⟨rfl, by simp, by simp⟩, ?_⟩
              intro _
              refine call_pure [(0, some 5)] (rjoin_all [bl l k, ab l k] (by simp)) rfl rfl rfl ?_ ?_ ?_
              · (repeat' first | exact trivial | exact rfl | refine And.intro ?_ ?_)
                show [bl l k, ab l k] = [((l.getD (0 + (IntKind.i64.wrap ((k : Int) - 1)).toNat) []).getD 1 (D.n 0)).int] ++ [((l.getD (0 + ((k : Int)).toNat) []).getD 0 (D.n 0)).int]
                rw [eB, e0]; rfl
              · (repeat' first | exact trivial | exact rfl | refine And.intro ?_ ?_)
              · intro v hv _
                subst hv
                intro _; refine ⟨rfl, ?_⟩
                intro _; refine ⟨fun g3 => by simp at g3, fun _ => ?_⟩
                refine ⟨⟨(btw_len l k).symm, by simp; omega, by simp; omega⟩, ?_⟩
                refine ⟨⟨k + 1, by omega⟩, by simp; omega, th [(1, some 7)] 2, rfl, rfl, rfl, rfl, rfl, rfl, ?_, ?_⟩
                · (repeat' first | exact trivial | exact rfl | refine And.intro ?_ ?_)
                  exact (wrap_nat k (by omega)).symm
                · (repeat' first | exact trivial | exact rfl | refine And.intro ?_ ?_)
                  show btw l (k + 1) = btw l k ++ [(jr [bl l k, ab l k]).1]
                  rw [btw_succ, jr_both (bl_mg hmk hkl) (ab_mg hmk k)]
            · have g2 := of_decide_eq_false (show decide ((k : Int) < (l.length : Int)) = false from g2)
              intro _
              refine call_pure [(0, some 3)] (rjoin_all [bl l k] (by simp)) rfl rfl rfl ?_ ?_ ?_
              · (repeat' first | exact trivial | exact rfl | refine And.intro ?_ ?_)
                show [bl l k] = [((l.getD (0 + (IntKind.i64.wrap ((k : Int) - 1)).toNat) []).getD 1 (D.n 0)).int]
                rw [eB]
              · (repeat' first | exact trivial | exact rfl | refine And.intro ?_ ?_)
              · intro v hv _
                subst hv
                intro _; refine ⟨rfl, ?_⟩
                intro _; refine ⟨fun g3 => by simp at g3, fun _ => ?_⟩
                refine ⟨⟨(btw_len l k).symm, by simp; omega, by simp; omega⟩, ?_⟩
                refine ⟨⟨k + 1, by omega⟩, by simp; omega, th [(1, some 5)] 2, rfl, rfl, rfl, rfl, rfl, rfl, ?_, ?_⟩
                · (repeat' first | exact trivial | exact rfl | refine And.intro ?_ ?_)
                  exact (wrap_nat k (by omega)).symm
                · (repeat' first | exact trivial | exact rfl | refine And.intro ?_ ?_)
                  show btw l (k + 1) = btw l k ++ [(jr [bl l k]).1]
                  rw [btw_succ, jr_left (bl_mg hmk hkl), ab_out (by omega)]
          · have g1 := of_decide_eq_false (show decide ((k : Int) > 0) = false from g1)
            have eZ : bl l k = 0 := by
              have : k = 0 := by omega
              rw [this]; rfl
            intro _; refine ⟨fun g2 => ?_, fun g2 => ?_⟩
            · have g2 := of_decide_eq_true (show decide ((k : Int) < (l.length : Int)) = true from g2)
              intro _; refine ⟨by simp; omega, ?_⟩
              intro _; refine ⟨show 0 + (k : Int).toNat < l.length by omega, ?_⟩
              intro _; refine ⟨rfl, ?_⟩
              intro _; refine ⟨fun g3 => by simp at g3, fun _ => ?_⟩
              refine ⟨⟨by simp, by simp⟩, ?_⟩
              intro _
              refine call_pure [(0, some 3)] (rjoin_all [ab l k] (by simp)) rfl rfl rfl ?_ ?_ ?_
              · (repeat' first | exact trivial | exact rfl | refine And.intro ?_ ?_)
                show [ab l k] = [((l.getD (0 + ((k : Int)).toNat) []).getD 0 (D.n 0)).int]
                rw [e0]; rfl
              · (repeat' first | exact trivial | exact rfl | refine And.intro ?_ ?_)
              · intro v hv _
                subst hv
                intro _; refine ⟨rfl, ?_⟩
                intro _; refine ⟨fun g3 => by simp at g3, fun _ => ?_⟩
                refine ⟨⟨(btw_len l k).symm, by simp; omega, by simp; omega⟩, ?_⟩
                refine ⟨⟨k + 1, by omega⟩, by simp; omega, th [(1, some 5)] 2, rfl, rfl, rfl, rfl, rfl, rfl, ?_, ?_⟩
                · (repeat' first | exact trivial | exact rfl | refine And.intro ?_ ?_)
                  exact (wrap_nat k (by omega)).symm
                · (repeat' first | exact trivial | exact rfl | refine And.intro ?_ ?_)
                  show btw l (k + 1) = btw l k ++ [(jr [ab l k]).1]
                  rw [btw_succ, jr_right (ab_mg hmk k), eZ]
            · have g2 := of_decide_eq_false (show decide ((k : Int) < (l.length : Int)) = false from g2)
              intro _
              refine call_pure [(0, none)] (rjoin_all [] (by simp)) rfl rfl rfl ?_ ?_ ?_
              · (repeat' first | exact trivial | exact rfl | refine And.intro ?_ ?_)
              · (repeat' first | exact trivial | exact rfl | refine And.intro ?_ ?_)
              · intro v hv _
                subst hv
                intro _; refine ⟨rfl, ?_⟩
                intro _; refine ⟨fun g3 => by simp at g3, fun _ => ?_⟩
                refine ⟨⟨(btw_len l k).symm, by simp; omega, by simp; omega⟩, ?_⟩
                refine ⟨⟨k + 1, by omega⟩, by simp; omega, th [(1, some 3)] 2, rfl, rfl, rfl, rfl, rfl, rfl, ?_, ?_⟩
                · (repeat' first | exact trivial | exact rfl | refine And.intro ?_ ?_)
                  exact (wrap_nat k (by omega)).symm
                · (repeat' first | exact trivial | exact rfl | refine And.intro ?_ ?_)
                  show btw l (k + 1) = btw l k ++ [(jr []).1]
                  rw [btw_succ, jr_none, eZ, ab_out (by omega)]
        · have hkl : k = l.length + 1 := by simp at g; omega
          subst hkl
          intro _
          refine ⟨[(1, some 1)], .tup [.grw 1 (br l).1.length, .int .i64 (br l).2], ⟨2, 1, [(1, .arr [.int .i64] .grow (.ints (br l).1))]⟩, rfl, rfl, rfl, rfl, ?_, ?_, ⟨rfl, rfl⟩⟩
          · rw [e]
            (repeat' first | exact trivial | exact rfl | refine And.intro ?_ ?_)
            exact btw_len l _
          · rw [e]
            (repeat' first | exact trivial | exact rfl | refine And.intro ?_ ?_)
def ng (l : List Int) (k : Nat) : List Int := (List.range k).map fun i => IntKind.i64.wrap (0 - l.getD i 0)
theorem ng_len (l : List Int) (k : Nat) : (ng l k).length = k := by simp [ng]
theorem ng_succ (l : List Int) (k : Nat) : ng l (k + 1) = ng l k ++ [IntKind.i64.wrap (0 - l.getD k 0)] := by simp [ng, List.range_succ]
def bk (l : Rows) (k : Nat) : Rows := (List.range k).map fun j => [.n (be l (l.length - 1 - j)), .n (ab l (l.length - 1 - j)), .n (hh l (l.length - 1 - j))]
theorem bk_len (l : Rows) (k : Nat) : List.length (bk l k) = k := by simp [bk]
theorem bk_succ (l : Rows) (k : Nat) : bk l (k + 1) = bk l k ++ [[.n (be l (l.length - 1 - k)), .n (ab l (l.length - 1 - k)), .n (hh l (l.length - 1 - k))]] := by simp [bk, List.range_succ]
theorem ng_map {l : List Int} (h : ∀ n ∈ l, Mg n) : ng l l.length = l.map (fun n => -n) := by
  refine List.ext_getElem (by simp [ng]) (fun i h1 h2 => ?_)
  have h3 : i < l.length := by simpa using h2
  have hm := of_all l h i h3
  simp only [ng, List.getElem_map, List.getElem_range]
  rw [List.getD_eq_getElem?_getD, List.getElem?_eq_getElem h3] at hm ⊢
  have := hm.1
  have := hm.2
  show IntKind.i64.wrap (0 - l[i]) = -l[i]
  simp only [Option.getD_some] at *
  rw [IntKind.wrap_i64]; omega
theorem mx_neg (l : List Int) : mx (l.map fun n => -n) = - mn l := by
  have key : ∀ (l : List Int) (a : Int), (l.map fun n => -n).foldl max (-a) = - l.foldl min a := by
    intro l
    induction l with
    | nil => intro a; rfl
    | cons x l ih =>
      intro a
      simp only [List.map_cons, List.foldl_cons]
      rw [← ih (min a x)]
      congr 1; omega
  exact key l 0
theorem mn_neg (l : List Int) : mn (l.map fun n => -n) = - mx l := by
  have key : ∀ (l : List Int) (a : Int), (l.map fun n => -n).foldl min (-a) = - l.foldl max a := by
    intro l
    induction l with
    | nil => intro a; rfl
    | cons x l ih =>
      intro a
      simp only [List.map_cons, List.foldl_cons]
      rw [← ih (max a x)]
      congr 1; omega
  exact key l 0
theorem neg_mg {l : List Int} (h : ∀ n ∈ l, Mg n) : ∀ n ∈ l.map (fun n => -n), Mg n := fun n hn => by
  obtain ⟨m, h1, rfl⟩ := List.mem_map.1 hn
  have := (h m h1).1
  have := (h m h1).2
  exact ⟨by omega, by omega⟩
theorem bk_getD (l : Rows) {j : Nat} (h : j < l.length) : (bk l l.length).getD j [] = [.n (be l (l.length - 1 - j)), .n (ab l (l.length - 1 - j)), .n (hh l (l.length - 1 - j))] := by
  rw [List.getD_eq_getElem?_getD, List.getElem?_eq_getElem (by rw [bk_len]; exact h)]
  simp [bk]
theorem bk_ab (l : Rows) {j : Nat} (h : j < l.length) : ab (bk l l.length) j = be l (l.length - 1 - j) := by unfold ab; rw [bk_getD l h]; rfl
theorem bk_be (l : Rows) {j : Nat} (h : j < l.length) : be (bk l l.length) j = ab l (l.length - 1 - j) := by unfold be; rw [bk_getD l h]; rfl
theorem bk_hh (l : Rows) {j : Nat} (h : j < l.length) : hh (bk l l.length) j = hh l (l.length - 1 - j) := by unfold hh; rw [bk_getD l h]; rfl
theorem bk_good (l : Rows) {j : Nat} (h : j < l.length) : Good (bk l l.length) j ↔ Good l (l.length - 1 - j) := by
  unfold Good; rw [bk_ab l h, bk_be l h, bk_hh l h]
  exact ⟨fun ⟨a, b, c⟩ => ⟨b, a, c⟩, fun ⟨a, b, c⟩ => ⟨b, a, c⟩⟩
theorem bk_all (l : Rows) : AllGood (bk l l.length) ↔ AllGood l := by
  constructor
  · intro h i hi
    have h1 := h (l.length - 1 - i) (by rw [bk_len]; omega)
    rw [bk_good l (by omega)] at h1
    have : l.length - 1 - (l.length - 1 - i) = i := by omega
    rw [this] at h1; exact h1
  · intro h i hi
    rw [bk_len] at hi
    rw [bk_good l hi]
    exact h _ (by omega)
theorem bk_br (l : Rows) : (br (bk l l.length)).2 = (br l).2 ∧ (br (bk l l.length)).1.length = (br l).1.length := by
  have h := bk_all l
  unfold br
  rw [bk_len]
  split
  · exact ⟨rfl, rfl⟩
  · by_cases e : AllGood l
    · rw [if_pos e, if_pos (h.2 e)]
      exact ⟨rfl, by rw [btw_len, btw_len]⟩
    · rw [if_neg e, if_neg (fun q => e (h.1 q))]
      exact ⟨rfl, rfl⟩
theorem jn_comm (a b : Int) : jn a b = jn b a := by
  simp only [jn, mx, mn, List.foldl_cons, List.foldl_nil]; omega
theorem bk_bl (l : Rows) {i : Nat} (h : i ≤ l.length) : bl (bk l l.length) (l.length - i) = ab l i := by
  rcases Nat.lt_or_ge i l.length with e | e
  · have : l.length - i = (l.length - i - 1) + 1 := by omega
    rw [this]
    show be (bk l l.length) (l.length - i - 1) = _
    rw [bk_be l (by omega)]
    congr 1; omega
  · have : l.length - i = 0 := by omega
    rw [this, ab_out e]; rfl
theorem bk_al (l : Rows) {i : Nat} (h : i ≤ l.length) : ab (bk l l.length) (l.length - i) = bl l i := by
  cases i with
  | zero => rw [ab_out (by rw [bk_len]; omega)]; rfl
  | succ i =>
    rw [bk_ab l (by omega)]
    show be l _ = be l i
    congr 1; omega
theorem btw_get (l : Rows) {k i : Nat} (h : i < k) : (btw l k).getD i 0 = jn (bl l i) (ab l i) := by
  rw [List.getD_eq_getElem?_getD, List.getElem?_eq_getElem (by rw [btw_len]; exact h)]
  simp [btw]
theorem br_turn (l : Rows) {i : Nat} (h : i < (br l).1.length) : (br l).1.getD i 0 = (br (bk l l.length)).1.getD ((br (bk l l.length)).1.length - 1 - i) 0 := by
  have hb := bk_all l
  rw [(bk_br l).2]
  revert h
  unfold br
  rw [bk_len]
  split
  · intro h; simp at h
  · by_cases e : AllGood l
    · rw [if_pos e, if_pos (hb.2 e)]
      intro h
      simp only [btw_len] at h ⊢
      rw [btw_get l (by omega), btw_get _ (by omega)]
      have e1 : l.length + 1 - 1 - i = l.length - i := by omega
      rw [e1, bk_bl l (by omega), bk_al l (by omega), jn_comm]
    · rw [if_neg e]
      intro h; simp at h
theorem br_len (l : Rows) : (br l).1.length ≤ l.length + 1 ∧ (br l).1.length ≤ 4001 := by
  unfold br
  split
  · simp
  · split
    · rw [btw_len]; omega
    · simp
theorem law7 (l : List Int) (it : Rows) (hl : l.length ≤ 9223372036854775807) (hi : List.length it ≤ 9223372036854775807) : SemF Try.prog 7 [.slc 0 1 0 l.length, .slc 1 3 0 it.length] ⟨2, 2, [(0, .arr [.int .i64] .ro (.ints l)), (1, .arr [.int .i64, .int .i64, .int .i64] .ro (.recs it))]⟩ (fun v _ => IsTrue v) := by
  refine enter tt_ok Try.func7 (nt := 141) (cd := body Try.f7) rfl rfl rfl rfl ?_
  intro _
  refine head_ok rfl Try.func15 (cd := body Try.f15) rfl ?_
  intro _
  refine call_pure [(0, some 0)] (right_ok l hl) rfl rfl rfl ?_ ?_ ?_
  · (repeat' first | exact trivial | exact rfl | refine And.intro ?_ ?_)
  · (repeat' first | exact trivial | exact rfl | refine And.intro ?_ ?_)
  · intro v hv _
    rcases hv with ⟨rfl, hv⟩ | ⟨rfl, hv⟩
    · intro _
      show true = true
      rfl
    · intro _; refine ⟨fun g => ?_, fun g => ?_⟩
      · intro _
        show true = true
        rfl
      · have hl2 : l.length ≤ 1000 := by
          have g : (!decide ((l.length : Int) ≤ 1000)) = false := g
          rw [Bool.not_eq_false'] at g
          have := of_decide_eq_true g
          omega
        intro _; refine ⟨fun g => ?_, fun g => ?_⟩
        · intro _
          show true = true
          rfl
        · have hi2 := of_decide_eq_false (show decide ((it.length : Int) > 1000) = false from g)
          intro _
          refine loop2 tt_ok [6, 33] [2] 3 (fun k : Fin (l.length + 1) => [(6, .grw 2 k), (33, .int .i64 (k : Nat))]) (fun k => [(2, .arr [.int .i64] .grow (.ints (ng l k)))]) (fun k => l.length - k) ⟨0, by omega⟩ ?_
          intro _
          refine ⟨⟨th [(2, none)] 3, rfl, rfl, rfl, rfl, rfl, rfl, ?_, ?_⟩, ?_⟩
          · (repeat' first | exact trivial | exact rfl | refine And.intro ?_ ?_)
          · (repeat' first | exact trivial | exact rfl | refine And.intro ?_ ?_)
          · intro ⟨k, hk⟩
            intro _; refine ⟨fun g => ?_, fun g => ?_⟩
            · have hkl : k < l.length := by simp at g; omega
              have e0 : 0 + ((k : Int)).toNat = k := by omega
              intro _; refine ⟨by simp; omega, ?_⟩
              intro _; refine ⟨by simp [AC.len]; omega, ?_⟩
              intro _; refine ⟨rfl, ?_⟩
              intro _; refine ⟨fun g3 => by simp at g3, fun _ => ?_⟩
              refine ⟨⟨(ng_len l k).symm, by simp; omega, by simp; omega⟩, ?_⟩
              refine ⟨⟨k + 1, by omega⟩, by simp; omega, th [(2, some 4)] 3, rfl, rfl, rfl, rfl, rfl, rfl, ?_, ?_⟩
              · (repeat' first | exact trivial | exact rfl | refine And.intro ?_ ?_)
                exact (wrap_nat k (by omega)).symm
              · (repeat' first | exact trivial | exact rfl | refine And.intro ?_ ?_)
                show ng l (k + 1) = ng l k ++ [IntKind.i64.wrap (0 - l.getD (0 + ((k : Int)).toNat) 0)]
                rw [e0, ng_succ]
            · have hkl : k = l.length := by simp at g; omega
              subst hkl
              intro _
              have hv0 := hv
              refine call_pure [(0, some 0)] (join_all l hl) rfl rfl rfl ?_ ?_ ?_
              · (repeat' first | exact trivial | exact rfl | refine And.intro ?_ ?_)
              · (repeat' first | exact trivial | exact rfl | refine And.intro ?_ ?_)
              · intro v hv _
                rw [jr_ok (by omega) hv0] at hv
                subst hv
                intro _
                refine call_pure [(0, some 2)] (join_all (ng l l.length) (by rw [ng_len]; omega)) rfl rfl rfl ?_ ?_ ?_
                · (repeat' first | exact trivial | exact rfl | refine And.intro ?_ ?_)
                · (repeat' first | exact trivial | exact rfl | refine And.intro ?_ ?_)
                  exact ng_len l _
                · intro v hv _
                  rw [ng_map hv0, jr_ok (by simp; omega) (neg_mg hv0), mx_neg, mn_neg] at hv
                  subst hv
                  intro _; refine ⟨fun g => by simp at g, fun _ => ?_⟩
                  intro _; refine ⟨fun g => by simp at g, fun _ => ?_⟩
                  intro _; refine ⟨fun g => ?_, fun _ => ?_⟩
                  · exfalso
                    have g : ((mx l + mn l) != IntKind.i64.wrap (0 - (-mn l + -mx l))) = true := g
                    have b1 := mx_bd l hv0
                    have b2 := mn_bd l hv0
                    have : IntKind.i64.wrap (0 - (-mn l + -mx l)) = mx l + mn l := by rw [IntKind.wrap_i64]; omega
                    rw [this] at g
                    simp at g
                  · intro _
                    refine loop2 tt_ok [13, 14] [3] 4 (fun m : Fin (it.length + 1) => [(13, .grw 3 m), (14, .int .i64 ((it.length : Int) - 1 - (m : Nat)))]) (fun m => [(3, .arr [.int .i64, .int .i64, .int .i64] .grow (.recs (bk it m)))]) (fun m => it.length - m) ⟨0, by omega⟩ ?_
                    intro _
                    refine ⟨⟨th [(3, none)] 4, rfl, rfl, rfl, rfl, rfl, rfl, ?_, ?_⟩, ?_⟩
                    · (repeat' first | exact trivial | exact rfl | refine And.intro ?_ ?_)
                      show (it.length : Int) - 1 - ((0 : Nat) : Int) = IntKind.i64.wrap ((it.length : Int) - 1)
                      rw [IntKind.wrap_i64]; omega
                    · (repeat' first | exact trivial | exact rfl | refine And.intro ?_ ?_)
                    · intro ⟨m, hm⟩
                      intro _; refine ⟨fun g => ?_, fun g => ?_⟩
                      · have g := of_decide_eq_true (show decide ((it.length : Int) - 1 - (m : Nat) ≥ 0) = true from g)
                        have e0 : 0 + ((it.length : Int) - 1 - (m : Nat)).toNat = it.length - 1 - m := by omega
                        intro _; refine ⟨show 0 ≤ (it.length : Int) - 1 - (m : Nat) ∧ (it.length : Int) - 1 - (m : Nat) < it.length by omega, ?_⟩
                        intro _; refine ⟨show 0 + ((it.length : Int) - 1 - (m : Nat)).toNat < it.length by omega, ?_⟩
                        intro _; refine ⟨rfl, ?_⟩
                        intro _; refine ⟨fun g3 => by simp at g3, fun _ => ?_⟩
                        refine ⟨⟨(bk_len it m).symm, by simp; omega, by simp; omega⟩, ?_⟩
                        refine ⟨⟨m + 1, by omega⟩, by simp; omega, th [(3, some 6)] 4, rfl, rfl, rfl, rfl, rfl, rfl, ?_, ?_⟩
                        · (repeat' first | exact trivial | exact rfl | refine And.intro ?_ ?_)
                          show (it.length : Int) - 1 - ((m + 1 : Nat) : Int) = IntKind.i64.wrap ((it.length : Int) - 1 - (m : Nat) - 1)
                          rw [IntKind.wrap_i64]; omega
                        · (repeat' first | exact trivial | exact rfl | refine And.intro ?_ ?_)
                          show bk it (m + 1) = bk it m ++ [[.n ((it.getD (0 + ((it.length : Int) - 1 - (m : Nat)).toNat) []).getD (0 + 1) (D.n 0)).int, .n ((it.getD (0 + ((it.length : Int) - 1 - (m : Nat)).toNat) []).getD 0 (D.n 0)).int, .n ((it.getD (0 + ((it.length : Int) - 1 - (m : Nat)).toNat) []).getD (0 + 1 + 1) (D.n 0)).int]]
                          rw [e0, bk_succ]; rfl
                      · have g := of_decide_eq_false (show decide ((it.length : Int) - 1 - (m : Nat) ≥ 0) = false from g)
                        have hml : m = it.length := by omega
                        subst hml
                        intro _
                        refine call_new [(0, some 1)] (between_all it hi) rfl rfl rfl rfl ?_ ?_ ?_
                        · (repeat' first | exact trivial | exact rfl | refine And.intro ?_ ?_)
                        · (repeat' first | exact trivial | exact rfl | refine And.intro ?_ ?_)
                        · intro v h' hv
                          obtain ⟨rfl, rfl⟩ := hv
                          refine ⟨[(4, some 1)], 5, [(4, .arr [.int .i64] .grow (.ints (br it).1))], .tup [.grw 4 (br it).1.length, .int .i64 (br it).2], rfl, rfl, rfl, rfl, rfl, ?_, ?_, ?_⟩
                          · (repeat' first | exact trivial | exact rfl | refine And.intro ?_ ?_)
                          · (repeat' first | exact trivial | exact rfl | refine And.intro ?_ ?_)
                          · intro _
                            refine call_new [(0, some 3)] (between_all (bk it it.length) (by rw [bk_len]; omega)) rfl rfl rfl rfl ?_ ?_ ?_
                            · (repeat' first | exact trivial | exact rfl | refine And.intro ?_ ?_)
                            · (repeat' first | exact trivial | exact rfl | refine And.intro ?_ ?_)
                              exact bk_len it _
                            · intro v h' hv
                              obtain ⟨rfl, rfl⟩ := hv
                              refine ⟨[(5, some 1)], 6, [(5, .arr [.int .i64] .grow (.ints (br (bk it it.length)).1))], .tup [.grw 5 (br (bk it it.length)).1.length, .int .i64 (br (bk it it.length)).2], rfl, rfl, rfl, rfl, rfl, ?_, ?_, ?_⟩
                              · (repeat' first | exact trivial | exact rfl | refine And.intro ?_ ?_)
                              · (repeat' first | exact trivial | exact rfl | refine And.intro ?_ ?_)
                              · obtain ⟨q1, q2⟩ := bk_br it
                                intro _; refine ⟨fun g => ?_, fun _ => ?_⟩
                                · exfalso
                                  have g : ((br it).2 != (br (bk it it.length)).2) = true := g
                                  rw [q1] at g; simp at g
                                · intro _; refine ⟨fun g => ?_, fun _ => ?_⟩
                                  · exfalso
                                    have g : (((br it).1.length : Int) != ((br (bk it it.length)).1.length : Int)) = true := g
                                    rw [q2] at g; simp at g
                                  · obtain ⟨z1, z2⟩ := br_len it
                                    intro _
                                    refine loop2 tt_ok [5, 108] [] 6 (fun k : Fin ((br it).1.length + 1) => [(5, .bool true), (108, .int .i64 (k : Nat))]) (fun _ => []) (fun k => (br it).1.length - k) ⟨0, by omega⟩ ?_
                                    intro _
                                    refine ⟨⟨th [] 6, rfl, rfl, rfl, rfl, rfl, rfl, ?_, ?_⟩, ?_⟩
                                    · (repeat' first | exact trivial | exact rfl | refine And.intro ?_ ?_)
                                    · (repeat' first | exact trivial | exact rfl | refine And.intro ?_ ?_)
                                    · intro ⟨j, hj⟩
                                      intro _; refine ⟨fun g => ?_, fun g => ?_⟩
                                      · have hjl : j < (br it).1.length := by simp at g; omega
                                        have e0 : 0 + ((j : Int)).toNat = j := by omega
                                        have eW : IntKind.i64.wrap (IntKind.i64.wrap (((br (bk it it.length)).1.length : Int) - 1) - (j : Nat)) = (((br (bk it it.length)).1.length - 1 - j : Nat) : Int) := by
                                          rw [IntKind.wrap_i64, IntKind.wrap_i64]; omega
                                        intro _; refine ⟨by simp; omega, ?_⟩
                                        intro _; refine ⟨by simp [AC.len]; omega, ?_⟩
                                        intro _; refine ⟨show 0 ≤ IntKind.i64.wrap (IntKind.i64.wrap (((br (bk it it.length)).1.length : Int) - 1) - (j : Nat)) ∧ IntKind.i64.wrap (IntKind.i64.wrap (((br (bk it it.length)).1.length : Int) - 1) - (j : Nat)) < ((br (bk it it.length)).1.length : Int) by rw [eW]; omega, ?_⟩
                                        intro _; refine ⟨show (IntKind.i64.wrap (IntKind.i64.wrap (((br (bk it it.length)).1.length : Int) - 1) - (j : Nat))).toNat < (br (bk it it.length)).1.length by rw [eW]; omega, ?_⟩
                                        intro _; refine ⟨by kernel_rfl, ?_⟩
                                        refine ⟨⟨j + 1, by omega⟩, by simp; omega, th [] 6, rfl, rfl, rfl, rfl, rfl, rfl, ?_, ?_⟩
                                        · (repeat' first | exact trivial | exact rfl | refine And.intro ?_ ?_)
                                          · show true = ((br it).1.getD ((j : Nat) : Int).toNat 0 == (br (bk it it.length)).1.getD (IntKind.i64.wrap (IntKind.i64.wrap (((br (bk it it.length)).1.length : Int) - 1) - (j : Nat))).toNat 0)
                                            rw [eW]
                                            have e3 : ((j : Nat) : Int).toNat = j := by omega
                                            have e4 : (((br (bk it it.length)).1.length - 1 - j : Nat) : Int).toNat = (br (bk it it.length)).1.length - 1 - j := by omega
                                            rw [e3, e4, br_turn it hjl]
                                            simp
                                          · exact (wrap_nat j (by omega)).symm
                                        · (repeat' first | exact trivial | exact rfl | refine And.intro ?_ ?_)
                                      · have hjl : j = (br it).1.length := by simp at g; omega
                                        subst hjl
                                        intro _; refine ⟨fun g => ?_, fun g => ?_⟩
                                        · intro _
                                          show true = true
                                          rfl
                                        · have g : ((br it).2 != 0) = false := g
                                          intro _
                                          show decide (((br it).1.length : Int) = IntKind.i64.wrap ((it.length : Int) + 1)) = true
                                          have e5 : (br it).1.length = it.length + 1 := by
                                            revert g
                                            unfold br
                                            split
                                            · intro g; simp at g
                                            · split
                                              · intro _; exact btw_len it _
                                              · intro g; simp at g
                                          rw [e5, IntKind.wrap_i64]
                                          refine decide_eq_true ?_
                                          omega

theorem walk (w : World) (v_l : Value) (s_l : Src) (l : List Int) (cap_l : Nat) (hk_l : s_l.ks = [.int .i64]) (ha_l : s_l.ac = .ints l) (hs_l : s_l.lies w) (hn_l : s_l.at_ = none → l.length = 0) (hc_l : l.length ≤ cap_l) (hv_l : v_l = s_l.val cap_l) (hm_l : l.length ≤ maxLen) (w_l : ∀ n ∈ l, (Lit.int .i64 n).wf = true) (v_it : Value) (s_it : Src) (it : List (List Go.Vm2.D)) (cap_it : Nat) (hk_it : s_it.ks = [.int .i64, .int .i64, .int .i64]) (ha_it : s_it.ac = .recs it) (hs_it : s_it.lies w) (hn_it : s_it.at_ = none → it.length = 0) (hc_it : it.length ≤ cap_it) (hv_it : v_it = s_it.val cap_it) (hm_it : it.length ≤ maxLen) (w_it : ∀ n ∈ it, rowWf [.int .i64, .int .i64, .int .i64] n) :
    Calls Try.prog 7 #[v_l, v_it] w fun e w' => e = .returned (.bool true) ∧ Below w.heap.size w w' := by
  obtain ⟨at_l, ks_l, ac_l⟩ := s_l
  simp only [] at hk_l ha_l
  subst hk_l ha_l
  have h_l : l.length ≤ 9223372036854775807 := by unfold maxLen at hm_l; omega
  obtain ⟨at_it, ks_it, ac_it⟩ := s_it
  simp only [] at hk_it ha_it
  subst hk_it ha_it
  have h_it : it.length ≤ 9223372036854775807 := by unfold maxLen at hm_it; omega
  exact top_run (by kernel_rfl) (by kernel_rfl) (T := [15]) (fun f hf w => by
      rcases List.mem_cons.1 hf with e | e
      · subst e; exact head w
      · exact (List.not_mem_nil e).elim) (l := [⟨at_l, [.int .i64], .ints l⟩, ⟨at_it, [.int .i64, .int .i64, .int .i64], .recs it⟩]) (args := [.slc 0 1 0 l.length, .slc 1 3 0 it.length]) («as» := [Src.av 0 cap_l ⟨at_l, [.int .i64], .ints l⟩, Src.av 1 cap_it ⟨at_it, [.int .i64, .int .i64, .int .i64], .recs it⟩]) (cargs := [v_l, v_it]) w
    (fun s h => by
      rcases List.mem_cons.1 h with e | h
      · subst e; exact hs_l
      · rcases List.mem_cons.1 h with e | h
        · subst e; exact hs_it
        · exact (List.not_mem_nil h).elim)
    (Cvs.cons (src_cv (s := ⟨at_l, [.int .i64], .ints l⟩) rfl 1 hc_l hn_l) (Cvs.cons (src_cv (s := ⟨at_it, [.int .i64, .int .i64, .int .i64], .recs it⟩) rfl 3 hc_it hn_it) Cvs.nil))
    (by simp only [Go.Vm.convs]; rw [src_conv (j := 0) (s := ⟨at_l, [.int .i64], .ints l⟩) rfl, src_conv (j := 1) (s := ⟨at_it, [.int .i64, .int .i64, .int .i64], .recs it⟩) rfl, hv_l, hv_it])
    (law7 l it h_l h_it)

set_option maxRecDepth 100000 in
theorem lifted (os : Os) (started : os.Started) (H : Type) (enc : TypeId × Value → H) :
    ReturnsInHanded {} Try.checked os 7 .any (Rows.marginsTurnedSpec.pre6 enc Try.prog Try.f7 Rows.marginsTurnedRow.domain false) (Rows.marginsTurnedSpec.post enc Try.prog Try.f7 false true false false) := by
  refine returnsInHanded_of_change (C := Try.checked) own started (by kernel_rfl) Try.func7
    (ChangeSpec.witness6 (enc := enc) (C := Try.checked) false ⟨#[], #[.slice none 0 0, .slice none 0 0], []⟩ 8 (by kernel_rfl) (by kernel_rfl) (by kernel_rfl) (by kernel_rfl)) ?_
  intro W base args ds gs before hval0 hW hcnd _
  have hval : ∀ (j : Nat) t v, Try.f7.params[j]? = some t → args[j]? = some v → Value.okWide Try.prog W .any base t v := hval0
  have hW' := hW
  obtain ⟨p, q, hA0, hV, rfl, hfz, hnd⟩ := hW
  have hA : DataW.TrodAll enc Try.prog W 0 (fun _ => true) true Try.f7.params.toList args.toList ds p := hA0
  rw [Try.params7] at hA hval
  obtain ⟨v0, vs0, d0, ds0, p0, q0, hargs, rfl, rfl, h0, r0⟩ := trodAll_cons hA
  obtain ⟨v1, vs1, d1, ds1, p1, q1, rfl, rfl, rfl, h1, r1⟩ := trodAll_cons r0
  obtain ⟨rfl, rfl, rfl⟩ := trodAll_nil r1
  obtain rfl : args = #[v0, v1] := by cases args; simp_all
  obtain ⟨rfl, rfl⟩ := trodVars_none hV
  obtain ⟨s_l, l, cap_l, hk_l, ha_l, hs_l, hn_l, hc_l, hv_l, hm_l, w_l⟩ := Go.Vm2.open_list Try.underlying22 Try.underlying3 (by kernel_rfl) (hval 0 22 v0 rfl rfl) h0
  have hlt0 : ∀ x ∈ p0, x.block < W.heap.size := fun x hx => by simpa using hW'.lt x (by simp [hx])
  obtain ⟨s_it, it, cap_it, hk_it, ha_it, hs_it, hn_it, hc_it, hv_it, hm_it, w_it⟩ := Go.Vm2.open_recs (ks := [.int .i64, .int .i64, .int .i64]) Try.underlying23 Try.underlying39 (by kernel_rfl) (by simp) (by kernel_rfl) (hval 1 23 v1 rfl rfl) h1
  have hlt1 : ∀ x ∈ p1, x.block < W.heap.size := fun x hx => by simpa using hW'.lt x (by simp [hx])
  clear hA0 hval0
  refine (walk W v0 s_l l cap_l hk_l ha_l hs_l hn_l hc_l hv_l hm_l w_l v1 s_it it cap_it hk_it ha_it hs_it hn_it hc_it hv_it hm_it w_it).mono fun e W' ⟨he, hg⟩ => ?_
  subst he
  exact ⟨_, rfl, _, _, _, [], _, [], hW', trodAll_cons_mk (shut_bool Try.underlying4 _) trodAll_mk0, (trodAll_cons_mk (Below.trod laidOut (by kernel_rfl) (of_decide_eq_true (by kernel_rfl)) h0 hg hlt0) (trodAll_cons_mk (Below.trod laidOut (by kernel_rfl) (of_decide_eq_true (by kernel_rfl)) h1 hg hlt1) trodAll_mk0)), rfl, hg.frame _, fun h => by cases h⟩

theorem over : Rows.marginsTurnedRow.holds Try.pinned (OpenSpec.ofChange Rows.marginsTurnedSpec) :=
  OpenClaim.holds_of_wide 7 Try.f7 rfl rfl rfl rfl rfl rfl rfl ⟨rfl, rfl, rfl, rfl, rfl⟩ rfl rfl rfl rfl rfl (by kernel_rfl) Try.func7 (by kernel_rfl)
    (of_decide_eq_true (by kernel_rfl)) (by unfold Func.isWrapper; first | (rw [if_pos (by decide +kernel)]; kernel_rfl) | (rw [if_neg (by decide +kernel)]; exact ⟨rfl, rfl⟩))
    (fun os started H enc _ => lifted os started H enc)

/-- the statement -/
theorem proved : Rows.MarginsTurnedSaid :=
  over
#print axioms proved
end Go.Proofs.Ytkphagflnhnfkaa.marginsTurned
