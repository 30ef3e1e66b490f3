/-
  StackMatchesReference: whatever the arguments, the law returns true, and its arguments read as before. No conditions.
-/
import Derived.Test.YtkphagflnhnfkabRows
import Derived.Test.YtkphagflnhnfkabVwOpen2
import Derived.Test.YtkphagflnhnfkabVwRules6
import Derived.Test.YtkphagflnhnfkabVmSym
import Derived.WalkKit
import Derived.ProofKit
import Derived.OpenShut
import Derived.Carry
namespace Go.Proofs.Ytkphagflnhnfkab.stackMatchesReference
open Go.ChangeShapes Go.WideShapes Go.ChangeAt Go.RowKit
open Go.Vm (Facts Val Sound)
open Go.Vm2
set_option linter.unusedVariables false
set_option linter.unusedSectionVars false

theorem own : ownKnob Try.prog.godebug = none := by kernel_rfl
theorem laidOut : laidOutB Try.prog = true := by kernel_rfl
def ts : List Nat := [52, 66, 3, 26, 4, 53, 5, 69, 88, 106, 104]
def tt : Go.Vm2.TT := [
  (52, ⟨(.slice 66 3 24 [.int .i64, .int .i64, .int .i64]), false, 1, .nils, true⟩),
  (66, ⟨(.struct [⟨0, 1, false⟩, ⟨1, 1, false⟩, ⟨2, 1, false⟩]), true, 3, .agg [.int .i64 (0), .int .i64 (0), .int .i64 (0)], true⟩),
  (3, ⟨(.int .i64), false, 1, .int .i64 (0), true⟩),
  (26, ⟨(.int .i64), false, 1, .int .i64 (0), true⟩),
  (4, ⟨.bool, false, 1, .bool false, true⟩),
  (53, ⟨(.slice 3 1 8 [.int .i64]), false, 1, .nils, true⟩),
  (5, ⟨(.int .u8), false, 1, .int .u8 (0), true⟩),
  (69, ⟨(.int .u16), false, 1, .int .u16 (0), true⟩),
  (88, ⟨(.struct [⟨0, 3, true⟩, ⟨3, 1, false⟩]), true, 4, .agg [.int .i64 (0), .int .i64 (0), .int .i64 (0), .int .i64 (0)], false⟩),
  (106, ⟨(.struct [⟨0, 2, true⟩]), true, 2, .agg [.int .i64 (0), .int .i64 (0)], false⟩),
  (104, ⟨(.struct [⟨0, 1, false⟩, ⟨1, 1, false⟩]), true, 2, .agg [.int .i64 (0), .int .i64 (0)], true⟩)]
theorem tt_mk : mkTT Try.prog ts = some tt := by kernel_rfl
theorem head (w : World) : Calls Try.prog 29 #[] w fun e w' => e = .returned (.bool true) ∧ Below w.heap.size w w' :=
  Go.Vm.head_run (by kernel_rfl) (by kernel_rfl) (n := 1000000) (by kernel_rfl) w
instance facts : Facts := ⟨[], [29], false⟩
instance val : Val := ⟨fun _ => 0⟩
instance sound : Sound := ⟨fun f hf => (List.not_mem_nil hf).elim⟩
theorem tt_ok : TTok Try.prog tt := ttok_mk tt_mk
def body (f : Func) : Code := match f.body with | some c => c | none => .skip
set_option maxRecDepth 100000
def hi (l : List Int) (k : Nat) : Int := (l.take k).foldl max 0
def lo (l : List Int) (k : Nat) : Int := (l.take k).foldl min 0
theorem hi_succ (l : List Int) (k : Nat) (h : k < l.length) : hi l (k + 1) = max (hi l k) (l.getD k 0) := by
  unfold hi; rw [List.take_succ_eq_append_getElem h, List.foldl_append]; simp [h]
theorem lo_succ (l : List Int) (k : Nat) (h : k < l.length) : lo l (k + 1) = min (lo l k) (l.getD k 0) := by
  unfold lo; rw [List.take_succ_eq_append_getElem h, List.foldl_append]; simp [h]
def I (l : List Int) (k : Nat) : Frm × H :=
  (⟨18, [(3, .ptr 1 0), (6, .slc 0 1 0 l.length), (7, .int .i64 l.length), (8, .int .i64 k)], []⟩,
   ⟨2, 1, [(0, .arr [.int .i64] .rd (.ints l)), (1, .cells [.int .i64 (hi l k), .int .i64 (lo l k)])]⟩)
theorem wrap_nat (k : Nat) (h : k < 9223372036854775807) : IntKind.i64.wrap ((k : Int) + 1) = ((k + 1 : Nat) : Int) := by
  rw [IntKind.wrap_i64]; omega
theorem join_ok (l : List Int) (hl : l.length ≤ 5000) : SemF Try.prog 63 [.slc 0 1 0 l.length] ⟨1, 1, [(0, .arr [.int .i64] .rd (.ints l))]⟩
    (fun v _ => v = .int .i64 (IntKind.i64.wrap (hi l l.length + lo l l.length)) ∧ nameless v = true) := by
  refine enter tt_ok Try.func63 (nt := 18) (cd := body Try.f63) rfl rfl rfl rfl ?_
  intro _
  refine loop tt_ok (fun k : Fin (l.length + 1) => I l k) (fun k => l.length - k) ⟨0, by omega⟩ ?_ ?_
  · refine ⟨[(0, some 0), (1, some 1)], rfl, rfl, rfl, rfl, rfl, rfl, ?_, ?_⟩
    · exact And.intro rfl (And.intro (And.intro rfl (And.intro rfl rfl)) (And.intro rfl (And.intro rfl trivial)))
    · exact And.intro rfl (And.intro (And.intro rfl (And.intro rfl trivial)) trivial)
  · intro ⟨k, hk⟩
    intro _; refine ⟨fun g => ?_, fun g => ?_⟩
    · intro _; refine ⟨by simp at g; simp; omega, ?_⟩
      intro _; refine ⟨by simp at g; simp [AC.len]; omega, ?_⟩
      intro _
      refine enter tt_ok Try.func72 (nt := 22) (cd := body Try.f72) rfl rfl rfl rfl ?_
      intro _
      refine ⟨⟨k + 1, by simp at g; omega⟩, by simp at g; simp; omega, [(0, some 0), (1, some 1)], rfl, rfl, rfl, rfl, rfl, rfl, ?_, ?_⟩
      · exact And.intro rfl (And.intro (And.intro rfl (And.intro rfl rfl)) (And.intro rfl (And.intro (show ((k + 1 : Nat) : Int) = IntKind.i64.wrap ((k : Int) + 1) from (wrap_nat k (by omega)).symm) trivial)))
      · have hkl : k < l.length := by simp at g; omega
        have e0 : 0 + ((k : Int)).toNat = k := by omega
        have e1 := hi_succ l k hkl
        have e2 := lo_succ l k hkl
        exact And.intro rfl (And.intro (And.intro (show hi l (k + 1) = max (hi l k) (l.getD (0 + ((k : Int)).toNat) 0) by rw [e0]; exact e1) (And.intro (show lo l (k + 1) = min (lo l k) (l.getD (0 + ((k : Int)).toNat) 0) by rw [e0]; exact e2) trivial)) trivial)
    · have hkl : k = l.length := by simp at g; omega
      subst hkl
      intro _
      refine enter tt_ok Try.func73 (nt := 12) (cd := body Try.f73) rfl rfl rfl rfl ?_
      intro _
      refine ⟨by kernel_rfl, ?_⟩
      intro _
      intro _
      exact ⟨rfl, rfl⟩

def mx (l : List Int) : Int := l.foldl max 0
def mn (l : List Int) : Int := l.foldl min 0
theorem hi_all (l : List Int) : hi l l.length = mx l := by unfold hi mx; rw [List.take_length]
theorem lo_all (l : List Int) : lo l l.length = mn l := by unfold lo mn; rw [List.take_length]
def Mg (n : Int) : Prop := -1000000000 ≤ n ∧ n ≤ 1000000000
theorem foldl_max (l : List Int) : ∀ a, (∀ n ∈ l, n ≤ 1000000000) → a ≤ 1000000000 → a ≤ l.foldl max a ∧ l.foldl max a ≤ 1000000000 := by
  induction l with
  | nil => intro a _ h; exact ⟨Int.le_refl _, h⟩
  | cons x l ih =>
    intro a h1 h2
    have hx := h1 x (by simp)
    have := ih (max a x) (fun n hn => h1 n (by simp [hn])) (by omega)
    simp only [List.foldl_cons]
    omega
theorem foldl_min (l : List Int) : ∀ a, (∀ n ∈ l, -1000000000 ≤ n) → -1000000000 ≤ a → l.foldl min a ≤ a ∧ -1000000000 ≤ l.foldl min a := by
  induction l with
  | nil => intro a _ h; exact ⟨Int.le_refl _, h⟩
  | cons x l ih =>
    intro a h1 h2
    have hx := h1 x (by simp)
    have := ih (min a x) (fun n hn => h1 n (by simp [hn])) (by omega)
    simp only [List.foldl_cons]
    omega
theorem mx_bd (l : List Int) (h : ∀ n ∈ l, Mg n) : 0 ≤ mx l ∧ mx l ≤ 1000000000 := foldl_max l 0 (fun n hn => (h n hn).2) (by omega)
theorem mn_bd (l : List Int) (h : ∀ n ∈ l, Mg n) : mn l ≤ 0 ∧ -1000000000 ≤ mn l := foldl_min l 0 (fun n hn => (h n hn).1) (by omega)
theorem margin_ok (n : Int) (h : H) (K : V → H → Prop) (h1 : n < -1000000000 → K (.bool false) h) (h2 : -1000000000 ≤ n → K (.test (decide (n ≤ 1000000000))) h) : SemF Try.prog 62 [.int .i64 n] h K := by
  refine enter tt_ok Try.func62 (nt := 9) (cd := body Try.f62) rfl rfl rfl rfl ?_
  intro _; refine ⟨fun g => ?_, fun g => ?_⟩
  · intro _; exact h2 (by simp at g; omega)
  · intro _; exact h1 (by simp at g; omega)
theorem rmargin_ok (n : Int) (h : H) (K : V → H → Prop) (h1 : n < -1000000000 → K (.bool false) h) (h2 : -1000000000 ≤ n → K (.test (decide (n ≤ 1000000000))) h) : SemF Try.prog 75 [.int .i64 n] h K := by
  refine enter tt_ok Try.func75 (nt := 9) (cd := body Try.f75) rfl rfl rfl rfl ?_
  intro _; refine ⟨fun g => ?_, fun g => ?_⟩
  · intro _; exact h2 (by simp at g; omega)
  · intro _; exact h1 (by simp at g; omega)
def IJ (l : List Int) (k : Nat) : Frm × H :=
  (⟨21, [(0, .slc 0 1 0 l.length), (9, .slc 0 1 0 l.length), (10, .int .i64 l.length), (11, .int .i64 k)], []⟩,
   ⟨1, 1, [(0, .arr [.int .i64] .rd (.ints l))]⟩)
/-- Join, of margins -/
theorem Join_ok (l : List Int) (hl : l.length ≤ 4000) (hm : ∀ n ∈ l, Mg n) : SemF Try.prog 39 [.slc 0 1 0 l.length] ⟨1, 1, [(0, .arr [.int .i64] .rd (.ints l))]⟩
    (fun v _ => v = .tup [.int .i64 (mx l + mn l), .int .i64 0] ∧ nameless v = true) := by
  refine enter tt_ok Try.func39 (nt := 21) (cd := body Try.f39) rfl rfl rfl rfl ?_
  intro _; refine ⟨fun g => by simp at g; omega, fun g => ?_⟩
  intro _
  refine loop tt_ok (fun k : Fin (l.length + 1) => IJ l k) (fun k => l.length - k) ⟨0, by omega⟩ ?_ ?_
  · refine ⟨[(0, some 0)], rfl, rfl, rfl, rfl, rfl, rfl, ?_, ?_⟩
    · exact And.intro (And.intro rfl (And.intro rfl rfl)) (And.intro (And.intro rfl (And.intro rfl rfl)) (And.intro rfl (And.intro rfl trivial)))
    · exact And.intro rfl trivial
  · intro ⟨k, hk⟩
    intro _; refine ⟨fun g => ?_, fun g => ?_⟩
    · have hkl : k < l.length := by simp at g; omega
      have e0 : 0 + ((k : Int)).toNat = k := by omega
      have hmk : Mg (l.getD k 0) := hm _ (by rw [List.getD_eq_getElem?_getD]; simp [hkl])
      intro _; refine ⟨by simp; omega, ?_⟩
      intro _; refine ⟨by simp [AC.len]; omega, ?_⟩
      intro _
      refine margin_ok _ _ _ (fun h1 => ?_) (fun h1 => ?_)
      · have h1 : l.getD (0 + ((k : Int)).toNat) 0 < -1000000000 := h1
        rw [e0] at h1; have := hmk.1; omega
      · intro _; refine ⟨fun g2 => ?_, fun g2 => ?_⟩
        · exfalso
          have g2 : (!decide (l.getD (0 + ((k : Int)).toNat) 0 ≤ 1000000000)) = true := g2
          rw [e0, Bool.not_eq_true'] at g2; exact of_decide_eq_false g2 hmk.2
        · refine ⟨⟨k + 1, by omega⟩, by simp; omega, [(0, some 0)], rfl, rfl, rfl, rfl, rfl, rfl, ?_, ?_⟩
          · exact And.intro (And.intro rfl (And.intro rfl rfl)) (And.intro (And.intro rfl (And.intro rfl rfl)) (And.intro rfl (And.intro (show ((k + 1 : Nat) : Int) = IntKind.i64.wrap ((k : Int) + 1) from (wrap_nat k (by omega)).symm) trivial)))
          · exact And.intro rfl trivial
    · intro _
      refine call_pure [(0, some 0)] (join_ok l (by omega)) rfl rfl rfl ?_ ?_ ?_
      · exact And.intro rfl trivial
      · exact And.intro (And.intro rfl (And.intro rfl rfl)) trivial
      · intro v hv _
        subst hv
        intro _
        refine ⟨?_, rfl⟩
        have b1 := mx_bd l hm
        have b2 := mn_bd l hm
        show V.tup [.int .i64 (IntKind.i64.wrap (hi l l.length + lo l l.length)), .int .i64 0] = _
        rw [hi_all, lo_all]
        have : IntKind.i64.wrap (mx l + mn l) = mx l + mn l := by rw [IntKind.wrap_i64]; omega
        rw [this]

/-! right -/
def Rt (l : List Int) : Prop := (∀ n ∈ l, Mg n) ∧ l.length ≤ 1000
theorem all_of (l : List Int) (h : ∀ i, i < l.length → Mg (l.getD i 0)) : ∀ n ∈ l, Mg n := by
  intro n hn
  obtain ⟨i, hi, rfl⟩ := List.getElem_of_mem hn
  have := h i hi
  rw [List.getD_eq_getElem?_getD, List.getElem?_eq_getElem hi] at this
  exact this
theorem of_all (l : List Int) (h : ∀ n ∈ l, Mg n) (i : Nat) (hi : i < l.length) : Mg (l.getD i 0) := by
  rw [List.getD_eq_getElem?_getD, List.getElem?_eq_getElem hi]
  exact h _ (List.getElem_mem hi)
theorem le_mx {l : List Int} {n : Int} (h : n ∈ l) : n ≤ mx l := by
  have key : ∀ (l : List Int) (a : Int), a ≤ l.foldl max a ∧ ∀ n ∈ l, n ≤ l.foldl max a := by
    intro l
    induction l with
    | nil => intro a; exact ⟨Int.le_refl _, fun n h => (List.not_mem_nil h).elim⟩
    | cons x l ih =>
      intro a
      obtain ⟨h1, h2⟩ := ih (max a x)
      refine ⟨by simp only [List.foldl_cons]; omega, fun n hn => ?_⟩
      simp only [List.foldl_cons]
      rcases List.mem_cons.1 hn with e | e
      · subst e; omega
      · exact h2 n e
  exact (key l 0).2 n h
theorem mx_le {l : List Int} {m : Int} (h0 : 0 ≤ m) (h : ∀ n ∈ l, n ≤ m) : mx l ≤ m := by
  have key : ∀ (l : List Int) (a : Int), a ≤ m → (∀ n ∈ l, n ≤ m) → l.foldl max a ≤ m := by
    intro l
    induction l with
    | nil => intro a h _; exact h
    | cons x l ih =>
      intro a h1 h2
      simp only [List.foldl_cons]
      have := h2 x (by simp)
      exact ih _ (by omega) (fun n hn => h2 n (by simp [hn]))
  exact key l 0 h0 h
theorem mn_le {l : List Int} {n : Int} (h : n ∈ l) : mn l ≤ n := by
  have key : ∀ (l : List Int) (a : Int), l.foldl min a ≤ a ∧ ∀ n ∈ l, l.foldl min a ≤ n := by
    intro l
    induction l with
    | nil => intro a; exact ⟨Int.le_refl _, fun n h => (List.not_mem_nil h).elim⟩
    | cons x l ih =>
      intro a
      obtain ⟨h1, h2⟩ := ih (min a x)
      refine ⟨by simp only [List.foldl_cons]; omega, fun n hn => ?_⟩
      simp only [List.foldl_cons]
      rcases List.mem_cons.1 hn with e | e
      · subst e; omega
      · exact h2 n e
  exact (key l 0).2 n h
theorem le_mn {l : List Int} {m : Int} (h0 : m ≤ 0) (h : ∀ n ∈ l, m ≤ n) : m ≤ mn l := by
  have key : ∀ (l : List Int) (a : Int), m ≤ a → (∀ n ∈ l, m ≤ n) → m ≤ l.foldl min a := by
    intro l
    induction l with
    | nil => intro a h _; exact h
    | cons x l ih =>
      intro a h1 h2
      simp only [List.foldl_cons]
      have := h2 x (by simp)
      exact ih _ (by omega) (fun n hn => h2 n (by simp [hn]))
  exact key l 0 h0 h
instance decMg (n : Int) : Decidable (Mg n) := inferInstanceAs (Decidable (_ ∧ _))
def jr (l : List Int) : Int × Int := if 4000 < l.length then (0, 2) else if ∀ n ∈ l, Mg n then (mx l + mn l, 0) else (0, 1)
def JV (l : List Int) : V := .tup [.int .i64 (jr l).1, .int .i64 (jr l).2]
theorem jr_long {l : List Int} (h : 4000 < l.length) : JV l = .tup [.int .i64 0, .int .i64 2] := by unfold JV jr; rw [if_pos h]
theorem jr_ok {l : List Int} (h : l.length ≤ 4000) (hm : ∀ n ∈ l, Mg n) : JV l = .tup [.int .i64 (mx l + mn l), .int .i64 0] := by unfold JV jr; rw [if_neg (by omega), if_pos hm]
theorem jr_bad {l : List Int} (h : l.length ≤ 4000) (hm : ¬ ∀ n ∈ l, Mg n) : JV l = .tup [.int .i64 0, .int .i64 1] := by unfold JV jr; rw [if_neg (by omega), if_neg hm]
abbrev Idx (l : List Int) := { k : Nat // k ≤ l.length ∧ ∀ i, i < k → Mg (l.getD i 0) }
theorem idx_succ {l : List Int} {k : Nat} (hm : ∀ i, i < k → Mg (l.getD i 0)) (h : Mg (l.getD k 0)) : ∀ i, i < k + 1 → Mg (l.getD i 0) := fun i hi => by
  by_cases e : i = k
  · subst e; exact h
  · exact hm i (by omega)
theorem join_all (l : List Int) (hl : l.length ≤ 9223372036854775807) : SemF Try.prog 39 [.slc 0 1 0 l.length] ⟨1, 1, [(0, .arr [.int .i64] .rd (.ints l))]⟩
    (fun v _ => v = JV l ∧ nameless v = true) := by
  refine enter tt_ok Try.func39 (nt := 21) (cd := body Try.f39) rfl rfl rfl rfl ?_
  intro _; refine ⟨fun g => ?_, fun g => ?_⟩
  · intro _
    refine ⟨?_, rfl⟩
    have g : decide ((l.length : Int) > 4000) = true := g
    have := of_decide_eq_true g
    exact (jr_long (by omega)).symm
  have hl4 : l.length ≤ 4000 := by
    have g : decide ((l.length : Int) > 4000) = false := g
    have := of_decide_eq_false g; omega
  intro _
  refine loop2 tt_ok [11] [] 1 (fun k : Idx l => [(11, .int .i64 k)]) (fun _ => []) (fun k => l.length - k) ⟨0, by omega, fun i h => by omega⟩ ?_
  intro _
  refine ⟨⟨th [] 1, rfl, rfl, rfl, rfl, rfl, rfl, ?_, ?_⟩, ?_⟩
  · (repeat' first | exact trivial | exact rfl | refine And.intro ?_ ?_)
  · (repeat' first | exact trivial | exact rfl | refine And.intro ?_ ?_)
  · intro ⟨k, hk, hmk⟩
    intro _; refine ⟨fun g => ?_, fun g => ?_⟩
    · have hkl : k < l.length := by simp at g; omega
      have e0 : 0 + ((k : Int)).toNat = k := by omega
      intro _; refine ⟨by simp; omega, ?_⟩
      intro _; refine ⟨by simp [AC.len]; omega, ?_⟩
      intro _
      refine margin_ok _ _ _ (fun h1 => ?_) (fun h1 => ?_)
      · intro _
        refine ⟨?_, rfl⟩
        have h1 : l.getD (0 + ((k : Int)).toNat) 0 < -1000000000 := h1
        rw [e0] at h1
        exact (jr_bad hl4 (fun hall => by have := (of_all l hall k hkl).1; omega)).symm
      · have h1 : -1000000000 ≤ l.getD (0 + ((k : Int)).toNat) 0 := h1
        rw [e0] at h1
        intro _; refine ⟨fun g2 => ?_, fun g2 => ?_⟩
        · have g2 : (!decide (l.getD (0 + ((k : Int)).toNat) 0 ≤ 1000000000)) = true := g2
          rw [e0, Bool.not_eq_true'] at g2
          intro _
          refine ⟨?_, rfl⟩
          exact (jr_bad hl4 (fun hall => of_decide_eq_false g2 (of_all l hall k hkl).2)).symm
        · have g2 : (!decide (l.getD (0 + ((k : Int)).toNat) 0 ≤ 1000000000)) = false := g2
          rw [e0, Bool.not_eq_false'] at g2
          refine ⟨⟨k + 1, by omega, idx_succ hmk ⟨h1, of_decide_eq_true g2⟩⟩, by simp; omega, th [] 1, rfl, rfl, rfl, rfl, rfl, rfl, ?_, ?_⟩
          · (repeat' first | exact trivial | exact rfl | refine And.intro ?_ ?_)
            exact (wrap_nat k (by omega)).symm
          · (repeat' first | exact trivial | exact rfl | refine And.intro ?_ ?_)
    · have hkl : k = l.length := by simp at g; omega
      subst hkl
      have hm := all_of l hmk
      intro _
      refine call_pure [(0, some 0)] (join_ok l (by omega)) rfl rfl rfl ?_ ?_ ?_
      · (repeat' first | exact trivial | exact rfl | refine And.intro ?_ ?_)
      · (repeat' first | exact trivial | exact rfl | refine And.intro ?_ ?_)
      · intro v hv _
        subst hv
        intro _
        refine ⟨?_, rfl⟩
        have b1 := mx_bd l hm
        have b2 := mn_bd l hm
        show V.tup [.int .i64 (IntKind.i64.wrap (hi l l.length + lo l l.length)), .int .i64 0] = _
        rw [jr_ok hl4 hm, hi_all, lo_all]
        have : IntKind.i64.wrap (mx l + mn l) = mx l + mn l := by rw [IntKind.wrap_i64]; omega
        rw [this]
theorem rjoin_all (l : List Int) (hl : l.length ≤ 9223372036854775807) : SemF Try.prog 71 [.slc 0 1 0 l.length] ⟨1, 1, [(0, .arr [.int .i64] .rd (.ints l))]⟩
    (fun v _ => v = JV l ∧ nameless v = true) := by
  refine enter tt_ok Try.func71 (nt := 37) (cd := body Try.f71) rfl rfl rfl rfl ?_
  intro _; refine ⟨fun g => ?_, fun g => ?_⟩
  · intro _
    refine ⟨?_, rfl⟩
    have g : decide ((l.length : Int) > 4000) = true := g
    have := of_decide_eq_true g
    exact (jr_long (by omega)).symm
  have hl4 : l.length ≤ 4000 := by
    have g : decide ((l.length : Int) > 4000) = false := g
    have := of_decide_eq_false g; omega
  intro _
  refine loop2 tt_ok [4, 5, 6] [] 1 (fun k : Idx l => [(4, .int .i64 (hi l k)), (5, .int .i64 (lo l k)), (6, .int .i64 k)]) (fun _ => []) (fun k => l.length - k) ⟨0, by omega, fun i h => by omega⟩ ?_
  intro _
  refine ⟨⟨th [] 1, rfl, rfl, rfl, rfl, rfl, rfl, ?_, ?_⟩, ?_⟩
  · (repeat' first | exact trivial | exact rfl | refine And.intro ?_ ?_)
  · (repeat' first | exact trivial | exact rfl | refine And.intro ?_ ?_)
  · intro ⟨k, hk, hmk⟩
    intro _; refine ⟨fun g => ?_, fun g => ?_⟩
    · have hkl : k < l.length := by simp at g; omega
      have e0 : 0 + ((k : Int)).toNat = k := by omega
      intro _; refine ⟨by simp; omega, ?_⟩
      intro _; refine ⟨by simp [AC.len]; omega, ?_⟩
      intro _
      refine rmargin_ok _ _ _ (fun h1 => ?_) (fun h1 => ?_)
      · intro _
        refine ⟨?_, rfl⟩
        have h1 : l.getD (0 + ((k : Int)).toNat) 0 < -1000000000 := h1
        rw [e0] at h1
        exact (jr_bad hl4 (fun hall => by have := (of_all l hall k hkl).1; omega)).symm
      · have h1 : -1000000000 ≤ l.getD (0 + ((k : Int)).toNat) 0 := h1
        rw [e0] at h1
        intro _; refine ⟨fun g2 => ?_, fun g2 => ?_⟩
        · have g2 : (!decide (l.getD (0 + ((k : Int)).toNat) 0 ≤ 1000000000)) = true := g2
          rw [e0, Bool.not_eq_true'] at g2
          intro _
          refine ⟨?_, rfl⟩
          exact (jr_bad hl4 (fun hall => of_decide_eq_false g2 (of_all l hall k hkl).2)).symm
        · have g2 : (!decide (l.getD (0 + ((k : Int)).toNat) 0 ≤ 1000000000)) = false := g2
          rw [e0, Bool.not_eq_false'] at g2
          intro _; refine ⟨by simp; omega, ?_⟩
          intro _; refine ⟨by simp [AC.len]; omega, ?_⟩
          intro _; refine ⟨by simp; omega, ?_⟩
          intro _; refine ⟨by simp [AC.len]; omega, ?_⟩
          have e1 := hi_succ l k hkl
          have e2 := lo_succ l k hkl
          refine ⟨⟨k + 1, by omega, idx_succ hmk ⟨h1, of_decide_eq_true g2⟩⟩, by simp; omega, th [] 1, rfl, rfl, rfl, rfl, rfl, rfl, ?_, ?_⟩
          · (repeat' first | exact trivial | exact rfl | refine And.intro ?_ ?_)
            · show hi l (k + 1) = max (hi l k) (l.getD (0 + ((k : Int)).toNat) 0)
              rw [e0]; exact e1
            · show lo l (k + 1) = min (lo l k) (l.getD (0 + ((k : Int)).toNat) 0)
              rw [e0]; exact e2
            · exact (wrap_nat k (by omega)).symm
          · (repeat' first | exact trivial | exact rfl | refine And.intro ?_ ?_)
    · have hkl : k = l.length := by simp at g; omega
      subst hkl
      have hm := all_of l hmk
      intro _
      refine ⟨?_, rfl⟩
      have b1 := mx_bd l hm
      have b2 := mn_bd l hm
      show V.tup [.int .i64 (IntKind.i64.wrap (hi l l.length + lo l l.length)), .int .i64 0] = _
      rw [jr_ok hl4 hm, hi_all, lo_all]
      have : IntKind.i64.wrap (mx l + mn l) = mx l + mn l := by rw [IntKind.wrap_i64]; omega
      rw [this]
/-- SameInts -/
theorem same_all (a b : List Int) (ha : a.length ≤ 9223372036854775807) (hb : b.length ≤ 9223372036854775807) : SemF Try.prog 32 [.slc 0 1 0 a.length, .slc 1 1 0 b.length] ⟨2, 2, [(0, .arr [.int .i64] .rd (.ints a)), (1, .arr [.int .i64] .rd (.ints b))]⟩
    (fun v _ => v = .bool (decide (a = b)) ∧ nameless v = true) := by
  refine enter tt_ok Try.func32 (nt := 26) (cd := body Try.f32) rfl rfl rfl rfl ?_
  intro _; refine ⟨fun g => ?_, fun g => ?_⟩
  · intro _
    refine ⟨?_, rfl⟩
    have g : ((a.length : Int) != (b.length : Int)) = true := g
    have : a ≠ b := fun e => by subst e; simp at g
    rw [decide_eq_false this]
  have hab : a.length = b.length := by
    have g : ((a.length : Int) != (b.length : Int)) = false := g
    have g2 := g; simp at g2; omega
  intro _
  refine loop2 tt_ok [5] [] 2 (fun k : { k : Nat // k ≤ a.length ∧ ∀ i, i < k → a.getD i 0 = b.getD i 0 } => [(5, .int .i64 k)]) (fun _ => []) (fun k => a.length - k) ⟨0, by omega, fun i h => by omega⟩ ?_
  intro _
  refine ⟨⟨th [] 2, rfl, rfl, rfl, rfl, rfl, rfl, ?_, ?_⟩, ?_⟩
  · (repeat' first | exact trivial | exact rfl | refine And.intro ?_ ?_)
  · (repeat' first | exact trivial | exact rfl | refine And.intro ?_ ?_)
  · intro ⟨k, hk, hmk⟩
    intro _; refine ⟨fun g => ?_, fun g => ?_⟩
    · have hkl : k < a.length := by simp at g; omega
      have e0 : 0 + ((k : Int)).toNat = k := by omega
      intro _; refine ⟨by simp; omega, ?_⟩
      intro _; refine ⟨by simp [AC.len]; omega, ?_⟩
      intro _; refine ⟨by simp; omega, ?_⟩
      intro _; refine ⟨by simp [AC.len]; omega, ?_⟩
      intro _; refine ⟨by kernel_rfl, ?_⟩
      intro _; refine ⟨fun g2 => ?_, fun g2 => ?_⟩
      · have g2 : (a.getD (0 + ((k : Int)).toNat) 0 != b.getD (0 + ((k : Int)).toNat) 0) = true := g2
        rw [e0] at g2
        intro _
        refine ⟨?_, rfl⟩
        have : a ≠ b := fun e => by subst e; simp at g2
        rw [decide_eq_false this]
      · have g2 : (a.getD (0 + ((k : Int)).toNat) 0 != b.getD (0 + ((k : Int)).toNat) 0) = false := g2
        rw [e0] at g2
        refine ⟨⟨k + 1, by omega, fun i hi => ?_⟩, by simp; omega, th [] 2, rfl, rfl, rfl, rfl, rfl, rfl, ?_, ?_⟩
        · by_cases e : i = k
          · subst e; simpa using g2
          · exact hmk i (by omega)
        · (repeat' first | exact trivial | exact rfl | refine And.intro ?_ ?_)
          exact (wrap_nat k (by omega)).symm
        · (repeat' first | exact trivial | exact rfl | refine And.intro ?_ ?_)
    · have hkl : k = a.length := by simp at g; omega
      subst hkl
      intro _
      refine ⟨?_, rfl⟩
      have : a = b := by
        refine List.ext_getElem hab (fun i h1 h2 => ?_)
        have := hmk i h1
        rw [List.getD_eq_getElem?_getD, List.getD_eq_getElem?_getD, List.getElem?_eq_getElem h1, List.getElem?_eq_getElem h2] at this
        exact this
      rw [decide_eq_true this]
theorem margin_test (n : Int) (h : H) (K : V → H → Prop) (hK : K (.test (decide (Mg n))) h) : SemF Try.prog 62 [.int .i64 n] h K := by
  refine SemF.test (margin_ok _ _ _ (fun h1 => ⟨false, .inl rfl, ?_⟩) (fun h1 => ⟨_, .inr rfl, ?_⟩))
  · have : decide (Mg n) = false := decide_eq_false (fun m => by have := m.1; omega)
    rw [← this]; exact hK
  · have : decide (Mg n) = decide (n ≤ 1000000000) := by
      by_cases e : n ≤ 1000000000
      · rw [decide_eq_true e, decide_eq_true (show Mg n from ⟨h1, e⟩)]
      · rw [decide_eq_false e, decide_eq_false (fun m => e m.2)]
    rw [← this]; exact hK
theorem rmargin_test (n : Int) (h : H) (K : V → H → Prop) (hK : K (.test (decide (Mg n))) h) : SemF Try.prog 75 [.int .i64 n] h K := by
  refine SemF.test (rmargin_ok _ _ _ (fun h1 => ⟨false, .inl rfl, ?_⟩) (fun h1 => ⟨_, .inr rfl, ?_⟩))
  · have : decide (Mg n) = false := decide_eq_false (fun m => by have := m.1; omega)
    rw [← this]; exact hK
  · have : decide (Mg n) = decide (n ≤ 1000000000) := by
      by_cases e : n ≤ 1000000000
      · rw [decide_eq_true e, decide_eq_true (show Mg n from ⟨h1, e⟩)]
      · rw [decide_eq_false e, decide_eq_false (fun m => e m.2)]
    rw [← this]; exact hK
abbrev Rows := List (List D)
def ab (l : Rows) (i : Nat) : Int := ((l.getD i []).getD 0 (.n 0)).int
def be (l : Rows) (i : Nat) : Int := ((l.getD i []).getD 1 (.n 0)).int
def hh (l : Rows) (i : Nat) : Int := ((l.getD i []).getD 2 (.n 0)).int
def Good (l : Rows) (i : Nat) : Prop := Mg (ab l i) ∧ Mg (be l i) ∧ 0 ≤ hh l i ∧ hh l i ≤ 1000000000
instance (l : Rows) (i : Nat) : Decidable (Good l i) := inferInstanceAs (Decidable (_ ∧ _))
def bl (l : Rows) : Nat → Int
  | 0 => 0
  | i + 1 => be l i
def jn (a b : Int) : Int := mx [a, b] + mn [a, b]
def btw (l : Rows) (k : Nat) : List Int := (List.range k).map fun i => jn (bl l i) (ab l i)
def AllGood (l : Rows) : Prop := ∀ i, i < l.length → Good l i
instance (l : Rows) : Decidable (AllGood l) := Nat.decidableBallLT _ _
def br (l : Rows) : List Int × Int := if 4000 < l.length then ([], 2) else if AllGood l then (btw l (l.length + 1), 0) else ([], 1)
def K3 : List CK := [.int .i64, .int .i64, .int .i64]
abbrev IdxR (l : Rows) := { k : Nat // k ≤ l.length ∧ ∀ i, i < k → Good l i }
/-- what Between comes to -/
def BQ (l : Rows) : V → H → Prop := fun v h' => v = .tup [.grw 1 (br l).1.length, .int .i64 (br l).2] ∧ h' = ⟨2, 1, [(1, .arr [.int .i64] .grow (.ints (br l).1))]⟩
theorem btw_len (l : Rows) (k : Nat) : (btw l k).length = k := by simp [btw]
theorem btw_succ (l : Rows) (k : Nat) : btw l (k + 1) = btw l k ++ [jn (bl l k) (ab l k)] := by simp [btw, List.range_succ]
theorem mg0 : Mg 0 := ⟨by omega, by omega⟩
theorem bl_mg {l : Rows} (h : AllGood l) {k : Nat} (hk : k ≤ l.length) : Mg (bl l k) := by
  cases k with
  | zero => exact mg0
  | succ k => exact (h k (by omega)).2.1
theorem ab_out {l : Rows} {k : Nat} (hk : l.length ≤ k) : ab l k = 0 := by
  have : l.getD k [] = [] := by rw [List.getD_eq_getElem?_getD, List.getElem?_eq_none hk]; rfl
  unfold ab; rw [this]; rfl
theorem ab_mg {l : Rows} (h : AllGood l) (k : Nat) : Mg (ab l k) := by
  rcases Nat.lt_or_ge k l.length with e | e
  · exact (h k e).1
  · rw [ab_out e]; exact mg0
theorem jn_wrap {a b : Int} (ha : Mg a) (hb : Mg b) : IntKind.i64.wrap (hi [a, b] [a, b].length + lo [a, b] [a, b].length) = jn a b := by
  have h : ∀ n ∈ [a, b], Mg n := fun n hn => by
    rcases List.mem_cons.1 hn with e | e
    · rw [e]; exact ha
    · rcases List.mem_cons.1 e with e | e
      · rw [e]; exact hb
      · exact (List.not_mem_nil e).elim
  have b1 := mx_bd _ h
  have b2 := mn_bd _ h
  rw [hi_all, lo_all]
  show _ = mx [a, b] + mn [a, b]
  rw [IntKind.wrap_i64]; omega
theorem between_all (l : Rows) (hl : l.length ≤ 9223372036854775807) : SemF Try.prog 57 [.slc 0 3 0 l.length] ⟨1, 1, [(0, .arr [.int .i64, .int .i64, .int .i64] .rd (.recs l))]⟩ (BQ l) := by
  refine SemF.ret ?_
  refine enter tt_ok Try.func57 (nt := 51) (cd := body Try.f57) rfl rfl rfl rfl ?_
  intro _; refine ⟨fun g => ?_, fun g => ?_⟩
  · have g : decide ((l.length : Int) > 4000) = true := g
    have := of_decide_eq_true g
    have e : br l = ([], 2) := by unfold br; rw [if_pos (by omega)]
    intro _
    refine ⟨[(1, none)], .tup [.grw 1 0, .int .i64 2], ⟨2, 1, [(1, .arr [.int .i64] .grow (.ints []))]⟩, rfl, rfl, rfl, rfl, ?_, ?_, ?_, ?_⟩
    · (repeat' first | exact trivial | exact rfl | refine And.intro ?_ ?_)
    · (repeat' first | exact trivial | exact rfl | refine And.intro ?_ ?_)
    · rw [e]; rfl
    · rw [e]
  have hl4 : l.length ≤ 4000 := by
    have g : decide ((l.length : Int) > 4000) = false := g
    have := of_decide_eq_false g; omega
  intro _
  refine loop2 tt_ok [14] [] 1 (fun k : IdxR l => [(14, .int .i64 k)]) (fun _ => []) (fun k => l.length - k) ⟨0, by omega, fun i h => by omega⟩ ?_
  intro _
  refine ⟨⟨th [] 1, rfl, rfl, rfl, rfl, rfl, rfl, ?_, ?_⟩, ?_⟩
  · (repeat' first | exact trivial | exact rfl | refine And.intro ?_ ?_)
  · (repeat' first | exact trivial | exact rfl | refine And.intro ?_ ?_)
  · intro ⟨k, hk, hmk⟩
    intro _; refine ⟨fun g => ?_, fun g => ?_⟩
    · have hkl : k < l.length := by simp at g; omega
      have e0 : 0 + ((k : Int)).toNat = k := by omega
      intro _; refine ⟨by simp; omega, ?_⟩
      intro _; refine ⟨by simp [AC.len]; omega, ?_⟩
      intro _
      have eA : ((l.getD (0 + ((k : Int)).toNat) []).getD 0 (D.n 0)).int = ab l k := by rw [e0]; rfl
      have eB : ((l.getD (0 + ((k : Int)).toNat) []).getD (0 + 1) (D.n 0)).int = be l k := by rw [e0]; rfl
      have eH : ((l.getD (0 + ((k : Int)).toNat) []).getD (0 + 1 + 1) (D.n 0)).int = hh l k := by rw [e0]; rfl
      have bad : ¬ Good l k → ∀ hx : List (Nat × Ob), Ret 1 (BQ l) (.tup [.nils, .int .i64 1]) ⟨2, 1, hx⟩ := fun hb hx => by
        have e : br l = ([], 1) := by unfold br; rw [if_neg (by omega), if_neg (fun h => hb (h k hkl))]
        refine ⟨[(1, none)], .tup [.grw 1 0, .int .i64 1], ⟨2, 1, [(1, .arr [.int .i64] .grow (.ints []))]⟩, rfl, rfl, rfl, rfl, ?_, ?_, ?_, ?_⟩
        · (repeat' first | exact trivial | exact rfl | refine And.intro ?_ ?_)
        · (repeat' first | exact trivial | exact rfl | refine And.intro ?_ ?_)
        · rw [e]; rfl
        · rw [e]
      refine margin_test _ _ _ ?_
      intro _; refine ⟨fun g1 => ?_, fun g1 => ?_⟩
      · have g1 : (!decide (Mg ((l.getD (0 + ((k : Int)).toNat) []).getD 0 (D.n 0)).int)) = true := g1
        rw [eA, Bool.not_eq_true'] at g1
        intro _
        exact bad (fun h => of_decide_eq_false g1 h.1) _
      · have g1 : (!decide (Mg ((l.getD (0 + ((k : Int)).toNat) []).getD 0 (D.n 0)).int)) = false := g1
        rw [eA, Bool.not_eq_false'] at g1
        intro _
        refine margin_test _ _ _ ?_
        intro _; refine ⟨fun g2 => ?_, fun g2 => ?_⟩
        · have g2 : (!decide (Mg ((l.getD (0 + ((k : Int)).toNat) []).getD (0 + 1) (D.n 0)).int)) = true := g2
          rw [eB, Bool.not_eq_true'] at g2
          intro _
          exact bad (fun h => of_decide_eq_false g2 h.2.1) _
        · have g2 : (!decide (Mg ((l.getD (0 + ((k : Int)).toNat) []).getD (0 + 1) (D.n 0)).int)) = false := g2
          rw [eB, Bool.not_eq_false'] at g2
          intro _; refine ⟨fun g3 => ?_, fun g3 => ?_⟩
          · have g3 : decide (((l.getD (0 + ((k : Int)).toNat) []).getD (0 + 1 + 1) (D.n 0)).int < 0) = true := g3
            rw [eH] at g3
            have g3 := of_decide_eq_true g3
            intro _
            exact bad (fun h => by have := h.2.2.1; omega) _
          · have g3 : decide (((l.getD (0 + ((k : Int)).toNat) []).getD (0 + 1 + 1) (D.n 0)).int < 0) = false := g3
            rw [eH] at g3
            have g3 := of_decide_eq_false g3
            intro _; refine ⟨fun g4 => ?_, fun g4 => ?_⟩
            · have g4 : decide (((l.getD (0 + ((k : Int)).toNat) []).getD (0 + 1 + 1) (D.n 0)).int > 1000000000) = true := g4
              rw [eH] at g4
              have g4 := of_decide_eq_true g4
              intro _
              exact bad (fun h => by have := h.2.2.2; omega) _
            · have g4 : decide (((l.getD (0 + ((k : Int)).toNat) []).getD (0 + 1 + 1) (D.n 0)).int > 1000000000) = false := g4
              rw [eH] at g4
              have g4 := of_decide_eq_false g4
              refine ⟨⟨k + 1, by omega, fun i hi => ?_⟩, by simp; omega, th [] 1, rfl, rfl, rfl, rfl, rfl, rfl, ?_, ?_⟩
              · by_cases e : i = k
                · subst e; exact ⟨of_decide_eq_true g1, of_decide_eq_true g2, by omega, by omega⟩
                · exact hmk i (by omega)
              · (repeat' first | exact trivial | exact rfl | refine And.intro ?_ ?_)
                exact (wrap_nat k (by omega)).symm
              · (repeat' first | exact trivial | exact rfl | refine And.intro ?_ ?_)
    · have hkl : k = l.length := by simp at g; omega
      subst hkl
      have e : br l = (btw l (l.length + 1), 0) := by unfold br; rw [if_neg (by omega), if_pos (show AllGood l from hmk)]
      intro _
      refine enter tt_ok Try.func69 (nt := 4) (cd := body Try.f69) rfl rfl rfl rfl ?_
      intro _
      intro _
      refine range_ok ?_
      intro _
      refine enter tt_ok Try.func74 (nt := 24) (cd := body Try.f74) rfl rfl rfl rfl ?_
      intro _
      refine loop2 tt_ok [3, 8] [1] 6 (fun k : Fin (l.length + 1) => [(3, .int .i64 (bl l k)), (8, .int .i64 (k : Nat))]) (fun k => [(1, .cells [.grw 5 k]), (5, .arr [.int .i64] .grow (.ints (btw l k)))]) (fun k => l.length - k) ⟨0, by omega⟩ ?_
      intro _
      refine ⟨⟨th [(5, none)] 6, rfl, rfl, rfl, rfl, rfl, rfl, ?_, ?_⟩, ?_⟩
      · (repeat' first | exact trivial | exact rfl | refine And.intro ?_ ?_)
      · (repeat' first | exact trivial | exact rfl | refine And.intro ?_ ?_)
      · intro ⟨k, hk⟩
        intro _; refine ⟨fun g => ?_, fun g => ?_⟩
        · have hkl : k < l.length := by simp at g; omega
          have e0 : 0 + ((k : Int)).toNat = k := by omega
          intro _; refine ⟨by simp; omega, ?_⟩
          intro _; refine ⟨by simp [AC.len]; omega, ?_⟩
          intro _
          refine yield_ok tt_ok ?_
          intro _
          refine Or.inl ?_
          intro _
          refine call_pure [(0, some 7)] (join_ok [bl l k, ((l.getD (0 + ((k : Int)).toNat) []).getD 0 (D.n 0)).int] (by simp)) rfl rfl rfl ?_ ?_ ?_
          · (repeat' first | exact trivial | exact rfl | refine And.intro ?_ ?_)
          · (repeat' first | exact trivial | exact rfl | refine And.intro ?_ ?_)
          · intro v hv _
            subst hv
            intro _
            refine Or.inr ?_
            intro _
            refine ⟨rfl, ?_⟩
            intro _
            refine ⟨fun g3 => by simp at g3, fun _ => ?_⟩
            refine ⟨⟨show k = (btw l k).length by simp [btw], by simp; omega, by simp; omega⟩, ?_⟩
            intro _
            refine ⟨by kernel_rfl, ?_⟩
            intro _
            refine ⟨⟨k + 1, by omega⟩, by simp; omega, th [(5, some 9)] 6, rfl, rfl, rfl, rfl, rfl, rfl, ?_, ?_⟩
            · (repeat' first | exact trivial | exact rfl | refine And.intro ?_ ?_)
              · show be l k = ((l.getD (0 + ((k : Int)).toNat) []).getD (0 + 1) (D.n 0)).int
                rw [e0]; rfl
              · exact (wrap_nat k (by omega)).symm
            · (repeat' first | exact trivial | exact rfl | refine And.intro ?_ ?_)
              show btw l (k + 1) = btw l k ++ [IntKind.i64.wrap (hi [bl l k, ((l.getD (0 + ((k : Int)).toNat) []).getD 0 (D.n 0)).int] [bl l k, ((l.getD (0 + ((k : Int)).toNat) []).getD 0 (D.n 0)).int].length + lo [bl l k, ((l.getD (0 + ((k : Int)).toNat) []).getD 0 (D.n 0)).int] [bl l k, ((l.getD (0 + ((k : Int)).toNat) []).getD 0 (D.n 0)).int].length)]
              have eA : ((l.getD (0 + ((k : Int)).toNat) []).getD 0 (D.n 0)).int = ab l k := by rw [e0]; rfl
              rw [eA, jn_wrap (bl_mg hmk (by omega)) (ab_mg hmk k), btw_succ]
        · have hkl : k = l.length := by simp at g; omega
          subst hkl
          intro _
          refine yield_ok tt_ok ?_
          intro _
          refine Or.inl ?_
          intro _
          refine call_pure [(0, some 6)] (join_ok [bl l l.length, 0] (by simp)) rfl rfl rfl ?_ ?_ ?_
          · (repeat' first | exact trivial | exact rfl | refine And.intro ?_ ?_)
          · (repeat' first | exact trivial | exact rfl | refine And.intro ?_ ?_)
          · intro v hv _
            subst hv
            intro _
            refine Or.inr ?_
            intro _
            refine ⟨rfl, ?_⟩
            intro _
            refine ⟨fun g3 => by simp at g3, fun _ => ?_⟩
            refine ⟨⟨(btw_len l l.length).symm, by simp; omega, by simp; omega⟩, ?_⟩
            intro _
            refine ⟨by kernel_rfl, ?_⟩
            intro _
            intro _
            intro _
            have e2 : btw l (l.length + 1) = btw l l.length ++ [IntKind.i64.wrap (hi [bl l l.length, 0] [bl l l.length, 0].length + lo [bl l l.length, 0] [bl l l.length, 0].length)] := by
              rw [jn_wrap (bl_mg hmk (Nat.le_refl _)) mg0, btw_succ, ab_out (Nat.le_refl _)]
            refine ⟨[(1, some 8)], .tup [.grw 1 (br l).1.length, .int .i64 (br l).2], ⟨2, 1, [(1, .arr [.int .i64] .grow (.ints (br l).1))]⟩, rfl, rfl, rfl, rfl, ?_, ?_, ⟨rfl, rfl⟩⟩
            · rw [e]
              (repeat' first | exact trivial | exact rfl | refine And.intro ?_ ?_)
              exact btw_len l _
            · rw [e]
              (repeat' first | exact trivial | exact rfl | refine And.intro ?_ ?_)
              exact e2
def GoodI (a b c : Int) : Prop := Mg a ∧ Mg b ∧ 0 ≤ c ∧ c ≤ 1000000000
instance (a b c : Int) : Decidable (GoodI a b c) := inferInstanceAs (Decidable (_ ∧ _))
theorem item_test (a b c : Int) : SemF Try.prog 70 [.agg [.int .i64 a, .int .i64 b, .int .i64 c]] ⟨0, 0, []⟩ (fun v _ => v = .test (decide (GoodI a b c)) ∧ nameless v = true) := by
  refine SemF.test ?_
  refine enter tt_ok Try.func70 (nt := 21) (cd := body Try.f70) rfl rfl rfl rfl ?_
  have no : ¬ GoodI a b c → ∀ K : V → H → Prop, ∀ h : H, (K (.test (decide (GoodI a b c))) h) → ∃ q, (V.bool false = .bool q ∨ V.bool false = .test q) ∧ K (.test q) h := fun hn K h hk => ⟨false, .inl rfl, by rw [decide_eq_false hn] at hk; exact hk⟩
  intro _
  refine rmargin_test _ _ _ ?_
  intro _; refine ⟨fun g1 => ?_, fun g1 => ?_⟩
  · have g1 := of_decide_eq_true (show decide (Mg a) = true from g1)
    intro _
    refine rmargin_test _ _ _ ?_
    intro _; refine ⟨fun g2 => ?_, fun g2 => ?_⟩
    · have g2 := of_decide_eq_true (show decide (Mg b) = true from g2)
      intro _; refine ⟨fun g3 => ?_, fun g3 => ?_⟩
      · have g3 := of_decide_eq_true (show decide (c ≥ 0) = true from g3)
        intro _
        refine ⟨decide (c ≤ 1000000000), .inr rfl, ?_, rfl⟩
        have : decide (c ≤ 1000000000) = decide (GoodI a b c) := by
          by_cases e : c ≤ 1000000000
          · rw [decide_eq_true e, decide_eq_true (show GoodI a b c from ⟨g1, g2, g3, e⟩)]
          · rw [decide_eq_false e, decide_eq_false (fun m : GoodI a b c => e m.2.2.2)]
        rw [this]
      · have g3 := of_decide_eq_false (show decide (c ≥ 0) = false from g3)
        intro _
        exact ⟨false, .inl rfl, by rw [decide_eq_false (fun m : GoodI a b c => g3 m.2.2.1)], rfl⟩
    · have g2 := of_decide_eq_false (show decide (Mg b) = false from g2)
      intro _
      exact ⟨false, .inl rfl, by rw [decide_eq_false (fun m : GoodI a b c => g2 m.2.1)], rfl⟩
  · have g1 := of_decide_eq_false (show decide (Mg a) = false from g1)
    intro _
    exact ⟨false, .inl rfl, by rw [decide_eq_false (fun m : GoodI a b c => g1 m.1)], rfl⟩
theorem jr_fst {l : List Int} (h : l.length ≤ 4000) (hm : ∀ n ∈ l, Mg n) : (jr l).1 = mx l + mn l := by unfold jr; rw [if_neg (by omega), if_pos hm]
theorem mg1 {a : Int} (ha : Mg a) : ∀ n ∈ [a], Mg n := fun n hn => by
  rcases List.mem_cons.1 hn with e | e
  · rw [e]; exact ha
  · exact (List.not_mem_nil e).elim
theorem mg2 {a b : Int} (ha : Mg a) (hb : Mg b) : ∀ n ∈ [a, b], Mg n := fun n hn => by
  rcases List.mem_cons.1 hn with e | e
  · rw [e]; exact ha
  · exact mg1 hb n e
theorem jr_both {a b : Int} (ha : Mg a) (hb : Mg b) : (jr [a, b]).1 = jn a b := jr_fst (by simp) (mg2 ha hb)
theorem jr_left {a : Int} (ha : Mg a) : (jr [a]).1 = jn a 0 := by
  rw [jr_fst (by simp) (mg1 ha)]
  simp only [jn, mx, mn, List.foldl_cons, List.foldl_nil]; omega
theorem jr_right {a : Int} (ha : Mg a) : (jr [a]).1 = jn 0 a := by
  rw [jr_fst (by simp) (mg1 ha)]
  simp only [jn, mx, mn, List.foldl_cons, List.foldl_nil]; omega
theorem jr_none : (jr []).1 = jn 0 0 := by
  rw [jr_fst (by simp) (fun n h => (List.not_mem_nil h).elim)]
  simp [jn, mx, mn]
theorem rbetween_all (l : Rows) (hl : l.length ≤ 9223372036854775806) : SemF Try.prog 61 [.slc 0 3 0 l.length] ⟨1, 1, [(0, .arr [.int .i64, .int .i64, .int .i64] .rd (.recs l))]⟩ (BQ l) := by
  refine SemF.ret ?_
  refine enter tt_ok Try.func61 (nt := 64) (cd := body Try.f61) rfl rfl rfl rfl ?_
  intro _; refine ⟨fun g => ?_, fun g => ?_⟩
  · have g : decide ((l.length : Int) > 4000) = true := g
    have := of_decide_eq_true g
    have e : br l = ([], 2) := by unfold br; rw [if_pos (by omega)]
    intro _
    refine ⟨[(1, none)], .tup [.grw 1 0, .int .i64 2], ⟨2, 1, [(1, .arr [.int .i64] .grow (.ints []))]⟩, rfl, rfl, rfl, rfl, ?_, ?_, ?_, ?_⟩
    · (repeat' first | exact trivial | exact rfl | refine And.intro ?_ ?_)
    · (repeat' first | exact trivial | exact rfl | refine And.intro ?_ ?_)
    · rw [e]; rfl
    · rw [e]
  have hl4 : l.length ≤ 4000 := by
    have g : decide ((l.length : Int) > 4000) = false := g
    have := of_decide_eq_false g; omega
  intro _
  refine loop2 tt_ok [4] [] 1 (fun k : IdxR l => [(4, .int .i64 k)]) (fun _ => []) (fun k => l.length - k) ⟨0, by omega, fun i h => by omega⟩ ?_
  intro _
  refine ⟨⟨th [] 1, rfl, rfl, rfl, rfl, rfl, rfl, ?_, ?_⟩, ?_⟩
  · (repeat' first | exact trivial | exact rfl | refine And.intro ?_ ?_)
  · (repeat' first | exact trivial | exact rfl | refine And.intro ?_ ?_)
  · intro ⟨k, hk, hmk⟩
    intro _; refine ⟨fun g => ?_, fun g => ?_⟩
    · have hkl : k < l.length := by simp at g; omega
      have e0 : 0 + ((k : Int)).toNat = k := by omega
      intro _; refine ⟨by simp; omega, ?_⟩
      intro _; refine ⟨by simp [AC.len]; omega, ?_⟩
      intro _
      refine call_pure [] (item_test (ab l k) (be l k) (hh l k)) rfl rfl rfl ?_ ?_ ?_
      · (repeat' first | exact trivial | exact rfl | refine And.intro ?_ ?_)
      · (repeat' first | exact trivial | exact rfl | refine And.intro ?_ ?_)
        · show ab l k = ((l.getD (0 + ((k : Int)).toNat) []).getD 0 (D.n 0)).int
          rw [e0]; rfl
        · show be l k = ((l.getD (0 + ((k : Int)).toNat) []).getD (0 + 1) (D.n 0)).int
          rw [e0]; rfl
        · show hh l k = ((l.getD (0 + ((k : Int)).toNat) []).getD (0 + 1 + 1) (D.n 0)).int
          rw [e0]; rfl
      · intro v hv _
        subst hv
        intro _; refine ⟨fun g1 => ?_, fun g1 => ?_⟩
        · have g1 : (!decide (Good l k)) = true := g1
          rw [Bool.not_eq_true'] at g1
          have g1 := of_decide_eq_false g1
          have e : br l = ([], 1) := by unfold br; rw [if_neg (by omega), if_neg (fun h => g1 (h k hkl))]
          intro _
          refine ⟨[(1, none)], .tup [.grw 1 0, .int .i64 1], ⟨2, 1, [(1, .arr [.int .i64] .grow (.ints []))]⟩, rfl, rfl, rfl, rfl, ?_, ?_, ?_, ?_⟩
          · (repeat' first | exact trivial | exact rfl | refine And.intro ?_ ?_)
          · (repeat' first | exact trivial | exact rfl | refine And.intro ?_ ?_)
          · rw [e]; rfl
          · rw [e]
        · have g1 : (!decide (Good l k)) = false := g1
          rw [Bool.not_eq_false'] at g1
          have g1 := of_decide_eq_true g1
          refine ⟨⟨k + 1, by omega, fun i hi => ?_⟩, by simp; omega, th [] 1, rfl, rfl, rfl, rfl, rfl, rfl, ?_, ?_⟩
          · by_cases e : i = k
            · subst e; exact g1
            · exact hmk i (by omega)
          · (repeat' first | exact trivial | exact rfl | refine And.intro ?_ ?_)
            exact (wrap_nat k (by omega)).symm
          · (repeat' first | exact trivial | exact rfl | refine And.intro ?_ ?_)
    · have hkl : k = l.length := by simp at g; omega
      subst hkl
      have e : br l = (btw l (l.length + 1), 0) := by unfold br; rw [if_neg (by omega), if_pos (show AllGood l from hmk)]
      intro _
      refine loop2 tt_ok [5, 6] [1] 2 (fun k : Fin (l.length + 2) => [(5, .grw 1 k), (6, .int .i64 (k : Nat))]) (fun k => [(1, .arr [.int .i64] .grow (.ints (btw l k)))]) (fun k => l.length + 1 - k) ⟨0, by omega⟩ ?_
      intro _
      refine ⟨⟨th [(1, none)] 2, rfl, rfl, rfl, rfl, rfl, rfl, ?_, ?_⟩, ?_⟩
      · (repeat' first | exact trivial | exact rfl | refine And.intro ?_ ?_)
      · (repeat' first | exact trivial | exact rfl | refine And.intro ?_ ?_)
      · intro ⟨k, hk⟩
        intro _; refine ⟨fun g => ?_, fun g => ?_⟩
        · have hkl : k ≤ l.length := by simp at g; omega
          have e0 : 0 + ((k : Int)).toNat = k := by omega
          intro _; refine ⟨fun g1 => ?_, fun g1 => ?_⟩
          · have g1 := of_decide_eq_true (show decide ((k : Int) > 0) = true from g1)
            have eW : IntKind.i64.wrap ((k : Int) - 1) = ((k - 1 : Nat) : Int) := by rw [IntKind.wrap_i64]; omega
            have eB : ((l.getD (0 + (IntKind.i64.wrap ((k : Int) - 1)).toNat) []).getD 1 (D.n 0)).int = bl l k := by
              rw [eW]
              have : 0 + (((k - 1 : Nat) : Int)).toNat = k - 1 := by omega
              rw [this]
              cases k with
              | zero => omega
              | succ k => rfl
            intro _; refine ⟨show 0 ≤ IntKind.i64.wrap ((k : Int) - 1) ∧ IntKind.i64.wrap ((k : Int) - 1) < l.length by rw [eW]; omega, ?_⟩
            intro _; refine ⟨show 0 + (IntKind.i64.wrap ((k : Int) - 1)).toNat < l.length by rw [eW]; omega, ?_⟩
            intro _; refine ⟨rfl, ?_⟩
            intro _; refine ⟨fun g3 => by simp at g3, fun _ => ?_⟩
            refine ⟨⟨by simp, by simp⟩, ?_⟩
            intro _; refine ⟨fun g2 => ?_, fun g2 => ?_⟩
            · have g2 := of_decide_eq_true (show decide ((k : Int) < (l.length : Int)) = true from g2)
              intro _; refine ⟨by simp; omega, ?_⟩
              intro _; refine ⟨show 0 + (k : Int).toNat < l.length by omega, ?_⟩
              intro _; refine ⟨rfl, ?_⟩
              intro _; refine ⟨fun g3 => by simp at g3, fun _ => ?_⟩
              refine ⟨⟨rfl, by simp, by simp⟩, ?_⟩
              intro _
              refine call_pure [(0, some 5)] (rjoin_all [bl l k, ab l k] (by simp)) rfl rfl rfl ?_ ?_ ?_
              · (repeat' first | exact trivial | exact rfl | refine And.intro ?_ ?_)
                show [bl l k, ab l k] = [((l.getD (0 + (IntKind.i64.wrap ((k : Int) - 1)).toNat) []).getD 1 (D.n 0)).int] ++ [((l.getD (0 + ((k : Int)).toNat) []).getD 0 (D.n 0)).int]
                rw [eB, e0]; rfl
              · (repeat' first | exact trivial | exact rfl | refine And.intro ?_ ?_)
              · intro v hv _
                subst hv
                intro _; refine ⟨rfl, ?_⟩
                intro _; refine ⟨fun g3 => by simp at g3, fun _ => ?_⟩
                refine ⟨⟨(btw_len l k).symm, by simp; omega, by simp; omega⟩, ?_⟩
                refine ⟨⟨k + 1, by omega⟩, by simp; omega, th [(1, some 7)] 2, rfl, rfl, rfl, rfl, rfl, rfl, ?_, ?_⟩
                · (repeat' first | exact trivial | exact rfl | refine And.intro ?_ ?_)
                  exact (wrap_nat k (by omega)).symm
                · (repeat' first | exact trivial | exact rfl | refine And.intro ?_ ?_)
                  show btw l (k + 1) = btw l k ++ [(jr [bl l k, ab l k]).1]
                  rw [btw_succ, jr_both (bl_mg hmk hkl) (ab_mg hmk k)]
            · have g2 := of_decide_eq_false (show decide ((k : Int) < (l.length : Int)) = false from g2)
              intro _
              refine call_pure [(0, some 3)] (rjoin_all [bl l k] (by simp)) rfl rfl rfl ?_ ?_ ?_
              · (repeat' first | exact trivial | exact rfl | refine And.intro ?_ ?_)
                show [bl l k] = [((l.getD (0 + (IntKind.i64.wrap ((k : Int) - 1)).toNat) []).getD 1 (D.n 0)).int]
                rw [eB]
              · (repeat' first | exact trivial | exact rfl | refine And.intro ?_ ?_)
              · intro v hv _
                subst hv
                intro _; refine ⟨rfl, ?_⟩
                intro _; refine ⟨fun g3 => by simp at g3, fun _ => ?_⟩
                refine ⟨⟨(btw_len l k).symm, by simp; omega, by simp; omega⟩, ?_⟩
                refine ⟨⟨k + 1, by omega⟩, by simp; omega, th [(1, some 5)] 2, rfl, rfl, rfl, rfl, rfl, rfl, ?_, ?_⟩
                · (repeat' first | exact trivial | exact rfl | refine And.intro ?_ ?_)
                  exact (wrap_nat k (by omega)).symm
                · (repeat' first | exact trivial | exact rfl | refine And.intro ?_ ?_)
                  show btw l (k + 1) = btw l k ++ [(jr [bl l k]).1]
                  rw [btw_succ, jr_left (bl_mg hmk hkl), ab_out (by omega)]
          · have g1 := of_decide_eq_false (show decide ((k : Int) > 0) = false from g1)
            have eZ : bl l k = 0 := by
              have : k = 0 := by omega
              rw [this]; rfl
            intro _; refine ⟨fun g2 => ?_, fun g2 => ?_⟩
            · have g2 := of_decide_eq_true (show decide ((k : Int) < (l.length : Int)) = true from g2)
              intro _; refine ⟨by simp; omega, ?_⟩
              intro _; refine ⟨show 0 + (k : Int).toNat < l.length by omega, ?_⟩
              intro _; refine ⟨rfl, ?_⟩
              intro _; refine ⟨fun g3 => by simp at g3, fun _ => ?_⟩
              refine ⟨⟨by simp, by simp⟩, ?_⟩
              intro _
              refine call_pure [(0, some 3)] (rjoin_all [ab l k] (by simp)) rfl rfl rfl ?_ ?_ ?_
              · (repeat' first | exact trivial | exact rfl | refine And.intro ?_ ?_)
                show [ab l k] = [((l.getD (0 + ((k : Int)).toNat) []).getD 0 (D.n 0)).int]
                rw [e0]; rfl
              · (repeat' first | exact trivial | exact rfl | refine And.intro ?_ ?_)
              · intro v hv _
                subst hv
                intro _; refine ⟨rfl, ?_⟩
                intro _; refine ⟨fun g3 => by simp at g3, fun _ => ?_⟩
                refine ⟨⟨(btw_len l k).symm, by simp; omega, by simp; omega⟩, ?_⟩
                refine ⟨⟨k + 1, by omega⟩, by simp; omega, th [(1, some 5)] 2, rfl, rfl, rfl, rfl, rfl, rfl, ?_, ?_⟩
                · (repeat' first | exact trivial | exact rfl | refine And.intro ?_ ?_)
                  exact (wrap_nat k (by omega)).symm
                · (repeat' first | exact trivial | exact rfl | refine And.intro ?_ ?_)
                  show btw l (k + 1) = btw l k ++ [(jr [ab l k]).1]
                  rw [btw_succ, jr_right (ab_mg hmk k), eZ]
            · have g2 := of_decide_eq_false (show decide ((k : Int) < (l.length : Int)) = false from g2)
              intro _
              refine call_pure [(0, none)] (rjoin_all [] (by simp)) rfl rfl rfl ?_ ?_ ?_
              · (repeat' first | exact trivial | exact rfl | refine And.intro ?_ ?_)
              · (repeat' first | exact trivial | exact rfl | refine And.intro ?_ ?_)
              · intro v hv _
                subst hv
                intro _; refine ⟨rfl, ?_⟩
                intro _; refine ⟨fun g3 => by simp at g3, fun _ => ?_⟩
                refine ⟨⟨(btw_len l k).symm, by simp; omega, by simp; omega⟩, ?_⟩
                refine ⟨⟨k + 1, by omega⟩, by simp; omega, th [(1, some 3)] 2, rfl, rfl, rfl, rfl, rfl, rfl, ?_, ?_⟩
                · (repeat' first | exact trivial | exact rfl | refine And.intro ?_ ?_)
                  exact (wrap_nat k (by omega)).symm
                · (repeat' first | exact trivial | exact rfl | refine And.intro ?_ ?_)
                  show btw l (k + 1) = btw l k ++ [(jr []).1]
                  rw [btw_succ, jr_none, eZ, ab_out (by omega)]
        · have hkl : k = l.length + 1 := by simp at g; omega
          subst hkl
          intro _
          refine ⟨[(1, some 1)], .tup [.grw 1 (br l).1.length, .int .i64 (br l).2], ⟨2, 1, [(1, .arr [.int .i64] .grow (.ints (br l).1))]⟩, rfl, rfl, rfl, rfl, ?_, ?_, ⟨rfl, rfl⟩⟩
          · rw [e]
            (repeat' first | exact trivial | exact rfl | refine And.intro ?_ ?_)
            exact btw_len l _
          · rw [e]
            (repeat' first | exact trivial | exact rfl | refine And.intro ?_ ?_)
/-- where the items begin, and where the next one is counted from -/
def gap (l : Rows) (k : Nat) : Int := jn (bl l k) (ab l k)
def atp (f : Int) (l : Rows) : Nat → Int
  | 0 => f
  | k + 1 => atp f l k + gap l k + hh l k
def ys (f : Int) (l : Rows) (k : Nat) : Int := atp f l k + gap l k
def Okk (f : Int) (l : Rows) (k : Nat) : Prop := ∀ i, i < k → Mg (ys f l i) ∧ Mg (atp f l (i + 1))
instance (f : Int) (l : Rows) (k : Nat) : Decidable (Okk f l k) := Nat.decidableBallLT _ _
def yl (f : Int) (l : Rows) (k : Nat) : List Int := (List.range k).map (ys f l)
theorem yl_len (f : Int) (l : Rows) (k : Nat) : (yl f l k).length = k := by simp [yl]
theorem yl_succ (f : Int) (l : Rows) (k : Nat) : yl f l (k + 1) = yl f l k ++ [ys f l k] := by simp [yl, List.range_succ]
def pr (f : Int) (l : Rows) : List Int × Int × Int :=
  if 4000 < l.length then ([], 0, 2) else if ¬ (AllGood l ∧ Mg f) then ([], 0, 1) else
  if Okk f l l.length ∧ Mg (ys f l l.length) then (yl f l l.length, ys f l l.length, 0) else ([], 0, 3)
def PQ (f : Int) (l : Rows) : V → H → Prop := fun v h' => v = .tup [.grw 1 (pr f l).1.length, .int .i64 (pr f l).2.1, .int .i64 (pr f l).2.2] ∧ h' = ⟨2, 1, [(1, .arr [.int .i64] .grow (.ints (pr f l).1))]⟩
theorem jn_mg {a b : Int} (ha : Mg a) (hb : Mg b) : Mg (jn a b) := by
  simp only [jn, mx, mn, List.foldl_cons, List.foldl_nil]
  have := ha.1; have := ha.2; have := hb.1; have := hb.2
  exact ⟨by omega, by omega⟩
theorem gap_mg {l : Rows} (h : AllGood l) {k : Nat} (hk : k ≤ l.length) : Mg (gap l k) := jn_mg (bl_mg h hk) (ab_mg h k)
theorem atp_bd {f : Int} {l : Rows} (h : AllGood l) (hf : Mg f) : ∀ k, k ≤ l.length → -1000000000 - 3000000000 * (k : Int) ≤ atp f l k ∧ atp f l k ≤ 1000000000 + 3000000000 * (k : Int)
  | 0, _ => by have := hf.1; have := hf.2; simp only [atp]; omega
  | k + 1, hk => by
    have ih := atp_bd h hf k (by omega)
    have g := gap_mg h (k := k) (by omega)
    have := g.1
    have := g.2
    have := (h k (by omega)).2.2.1
    have := (h k (by omega)).2.2.2
    simp only [atp]
    omega
theorem btw_get (l : Rows) {k i : Nat} (h : i < k) : (btw l k).getD i 0 = jn (bl l i) (ab l i) := by
  rw [List.getD_eq_getElem?_getD, List.getElem?_eq_getElem (by rw [btw_len]; exact h)]
  simp [btw]
theorem coord_test (n : Int) (h : H) (K : V → H → Prop) (hK : K (.test (decide (Mg n))) h) : SemF Try.prog 58 [.int .i64 n] h K := by
  refine SemF.test ?_
  refine enter tt_ok Try.func58 (nt := 9) (cd := body Try.f58) rfl rfl rfl rfl ?_
  intro _; refine ⟨fun g => ?_, fun g => ?_⟩
  · have g := of_decide_eq_true (show decide (n ≥ -1000000000) = true from g)
    intro _
    refine ⟨_, .inr rfl, ?_⟩
    have : decide (Mg n) = decide (n ≤ 1000000000) := by
      by_cases e : n ≤ 1000000000
      · rw [decide_eq_true e, decide_eq_true (show Mg n from ⟨by omega, e⟩)]
      · rw [decide_eq_false e, decide_eq_false (fun m => e m.2)]
    rw [← this]; exact hK
  · have g := of_decide_eq_false (show decide (n ≥ -1000000000) = false from g)
    intro _
    refine ⟨false, .inl rfl, ?_⟩
    have : decide (Mg n) = false := decide_eq_false (fun m => by have := m.1; omega)
    rw [← this]; exact hK
theorem rcoord_test (n : Int) (h : H) (K : V → H → Prop) (hK : K (.test (decide (Mg n))) h) : SemF Try.prog 40 [.int .i64 n] h K := by
  refine SemF.test ?_
  refine enter tt_ok Try.func40 (nt := 9) (cd := body Try.f40) rfl rfl rfl rfl ?_
  intro _; refine ⟨fun g => ?_, fun g => ?_⟩
  · have g := of_decide_eq_true (show decide (n ≥ -1000000000) = true from g)
    intro _
    refine ⟨_, .inr rfl, ?_⟩
    have : decide (Mg n) = decide (n ≤ 1000000000) := by
      by_cases e : n ≤ 1000000000
      · rw [decide_eq_true e, decide_eq_true (show Mg n from ⟨by omega, e⟩)]
      · rw [decide_eq_false e, decide_eq_false (fun m => e m.2)]
    rw [← this]; exact hK
  · have g := of_decide_eq_false (show decide (n ≥ -1000000000) = false from g)
    intro _
    refine ⟨false, .inl rfl, ?_⟩
    have : decide (Mg n) = false := decide_eq_false (fun m => by have := m.1; omega)
    rw [← this]; exact hK
theorem end_ok (a b c d : Int) : SemF Try.prog 60 [.agg [.int .i64 a, .int .i64 b, .int .i64 c, .int .i64 d]] ⟨0, 0, []⟩ (fun v _ => v = .int .i64 (IntKind.i64.wrap (d + c)) ∧ nameless v = true) := by
  refine enter tt_ok Try.func60 (nt := 9) (cd := body Try.f60) rfl rfl rfl rfl ?_
  intro _
  exact ⟨rfl, rfl⟩
theorem place_all (f : Int) (l : Rows) (hl : l.length ≤ 9223372036854775807) : SemF Try.prog 30 [.int .i64 f, .slc 0 3 0 l.length] ⟨1, 1, [(0, .arr [.int .i64, .int .i64, .int .i64] .rd (.recs l))]⟩ (PQ f l) := by
  refine SemF.ret ?_
  refine enter tt_ok Try.func30 (nt := 66) (cd := body Try.f30) rfl rfl rfl rfl ?_
  have fin : ∀ e : Int, pr f l = ([], 0, e) → ∀ nx hx, Nat.ble 1 nx = true → Ret 1 (PQ f l) (.tup [.nils, .int .i64 0, .int .i64 e]) ⟨nx, 1, hx⟩ := fun e he nx hx hn => by
    refine ⟨[(1, none)], .tup [.grw 1 0, .int .i64 0, .int .i64 e], ⟨2, 1, [(1, .arr [.int .i64] .grow (.ints []))]⟩, rfl, rfl, rfl, rfl, ?_, ?_, ?_, ?_⟩
    · (repeat' first | exact trivial | exact rfl | refine And.intro ?_ ?_)
    · (repeat' first | exact trivial | exact rfl | refine And.intro ?_ ?_)
    · rw [he]; rfl
    · rw [he]
  intro _; refine ⟨fun g => ?_, fun g => ?_⟩
  · have g := of_decide_eq_true (show decide ((l.length : Int) > 4000) = true from g)
    intro _
    exact fin 2 (by unfold pr; rw [if_pos (by omega)]) _ _ rfl
  have hl4 : l.length ≤ 4000 := by
    have g := of_decide_eq_false (show decide ((l.length : Int) > 4000) = false from g)
    omega
  intro _
  refine call_new [(0, some 0)] (between_all l hl) rfl rfl rfl rfl ?_ ?_ ?_
  · (repeat' first | exact trivial | exact rfl | refine And.intro ?_ ?_)
  · (repeat' first | exact trivial | exact rfl | refine And.intro ?_ ?_)
  intro v h' hv
  obtain ⟨rfl, rfl⟩ := hv
  refine ⟨[(1, some 1)], 2, [(1, .arr [.int .i64] .grow (.ints (br l).1))], .tup [.grw 1 (br l).1.length, .int .i64 (br l).2], rfl, rfl, rfl, rfl, rfl, ?_, ?_, ?_⟩
  · (repeat' first | exact trivial | exact rfl | refine And.intro ?_ ?_)
  · (repeat' first | exact trivial | exact rfl | refine And.intro ?_ ?_)
  intro _; refine ⟨fun g => ?_, fun g => ?_⟩
  · have g : ((br l).2 != 0) = true := g
    have hb : ¬ AllGood l := fun h => by unfold br at g; rw [if_neg (by omega), if_pos h] at g; simp at g
    intro _
    exact fin 1 (by unfold pr; rw [if_neg (by omega), if_pos (fun h => hb h.1)]) _ _ rfl
  have hb : AllGood l := by
    have g : ((br l).2 != 0) = false := g
    by_cases h : AllGood l
    · exact h
    · unfold br at g; rw [if_neg (by omega), if_neg h] at g; simp at g
  have eb : br l = (btw l (l.length + 1), 0) := by unfold br; rw [if_neg (by omega), if_pos hb]
  have lb : (br l).1.length = l.length + 1 := by rw [eb]; exact btw_len l _
  intro _
  refine coord_test _ _ _ ?_
  intro _; refine ⟨fun g => ?_, fun g => ?_⟩
  · have g : (!decide (Mg f)) = true := g
    rw [Bool.not_eq_true'] at g
    have g := of_decide_eq_false g
    intro _
    exact fin 1 (by unfold pr; rw [if_neg (by omega), if_pos (fun h => g h.2)]) _ _ rfl
  have g : (!decide (Mg f)) = false := g
  rw [Bool.not_eq_false'] at g
  have hf := of_decide_eq_true g
  intro _
  refine loop2 tt_ok [12, 34] [2, 3] 5 (fun k : Fin (l.length + 1) => [(12, .int .i64 (atp f l k)), (34, .int .i64 (k : Nat))]) (fun k => [(2, .cells [.grw 4 k]), (3, .cells [.test (decide (Okk f l k))]), (4, .arr [.int .i64] .grow (.ints (yl f l k)))]) (fun k => l.length - k) ⟨0, by omega⟩ ?_
  intro _
  refine ⟨⟨th [(4, none)] 5, rfl, rfl, rfl, rfl, rfl, rfl, ?_, ?_⟩, ?_⟩
  · (repeat' first | exact trivial | exact rfl | refine And.intro ?_ ?_)
  · (repeat' first | exact trivial | exact rfl | refine And.intro ?_ ?_)
  intro ⟨k, hk⟩
  intro _; refine ⟨fun g => ?_, fun g => ?_⟩
  · have hkl : k < l.length := by simp at g; omega
    have e0 : 0 + ((k : Int)).toNat = k := by omega
    intro _; refine ⟨by simp; omega, ?_⟩
    intro _; refine ⟨by simp [AC.len]; omega, ?_⟩
    intro _; refine ⟨show 0 ≤ (k : Int) ∧ (k : Int) < ((br l).1.length : Int) by omega, ?_⟩
    intro _; refine ⟨show (k : Int).toNat < (br l).1.length by omega, ?_⟩
    intro _
    refine Or.inr ?_
    intro _
    have eY : IntKind.i64.wrap (atp f l k + (br l).1.getD (k : Int).toNat 0) = ys f l k := by
      have e3 : (k : Int).toNat = k := by omega
      have b := atp_bd hb hf k (by omega)
      have b2 := gap_mg hb (k := k) (by omega)
      have := b2.1
      have := b2.2
      rw [e3, eb, btw_get l (by omega)]
      show IntKind.i64.wrap (atp f l k + gap l k) = atp f l k + gap l k
      rw [IntKind.wrap_i64]; omega
    have eA : IntKind.i64.wrap (ys f l k + ((l.getD (0 + ((k : Nat) : Int).toNat) []).getD (0 + 1 + 1) (D.n 0)).int) = atp f l (k + 1) := by
      rw [e0]
      have b := atp_bd hb hf (k + 1) (by omega)
      show IntKind.i64.wrap (ys f l k + hh l k) = ys f l k + hh l k
      have e : ys f l k + hh l k = atp f l (k + 1) := rfl
      rw [e, IntKind.wrap_i64]; omega
    refine enter tt_ok Try.func59 (nt := 23) (cd := body Try.f59) rfl rfl rfl rfl ?_
    intro _; refine ⟨fun g1 => ?_, fun g1 => ?_⟩
    · intro _
      refine coord_test _ _ _ ?_
      intro _; refine ⟨fun g2 => ?_, fun g2 => ?_⟩
      · intro _
        refine call_pure [] (end_ok ((l.getD (0 + ((k : Nat) : Int).toNat) []).getD 0 (D.n 0)).int ((l.getD (0 + ((k : Nat) : Int).toNat) []).getD (0 + 1) (D.n 0)).int ((l.getD (0 + ((k : Nat) : Int).toNat) []).getD (0 + 1 + 1) (D.n 0)).int (IntKind.i64.wrap (atp f l k + (br l).1.getD (k : Int).toNat 0))) rfl rfl rfl ?_ ?_ ?_
        · (repeat' first | exact trivial | exact rfl | refine And.intro ?_ ?_)
        · (repeat' first | exact trivial | exact rfl | refine And.intro ?_ ?_)
        intro v hv _
        subst hv
        intro _
        refine coord_test _ _ _ ?_
        intro _
        refine ⟨rfl, ?_⟩
        intro _; refine ⟨fun g3 => by simp at g3, fun _ => ?_⟩
        refine ⟨⟨(yl_len f l k).symm, by simp; omega, by simp; omega⟩, ?_⟩
        intro _
        refine call_pure [] (end_ok ((l.getD (0 + ((k : Nat) : Int).toNat) []).getD 0 (D.n 0)).int ((l.getD (0 + ((k : Nat) : Int).toNat) []).getD (0 + 1) (D.n 0)).int ((l.getD (0 + ((k : Nat) : Int).toNat) []).getD (0 + 1 + 1) (D.n 0)).int (IntKind.i64.wrap (atp f l k + (br l).1.getD (k : Int).toNat 0))) rfl rfl rfl ?_ ?_ ?_
        · (repeat' first | exact trivial | exact rfl | refine And.intro ?_ ?_)
        · (repeat' first | exact trivial | exact rfl | refine And.intro ?_ ?_)
        intro v hv _
        subst hv
        intro _
        intro _
        refine ⟨by kernel_rfl, ?_⟩
        refine ⟨⟨k + 1, by omega⟩, by simp; omega, th [(4, some 8)] 5, rfl, rfl, rfl, rfl, rfl, rfl, ?_, ?_⟩
        · (repeat' first | exact trivial | exact rfl | refine And.intro ?_ ?_)
          · show atp f l (k + 1) = IntKind.i64.wrap (IntKind.i64.wrap (atp f l k + (br l).1.getD (k : Int).toNat 0) + ((l.getD (0 + ((k : Nat) : Int).toNat) []).getD (0 + 1 + 1) (D.n 0)).int)
            rw [eY, eA]
          · exact (wrap_nat k (by omega)).symm
        · (repeat' first | exact trivial | exact rfl | refine And.intro ?_ ?_)
          · show decide (Okk f l (k + 1)) = decide (Mg (IntKind.i64.wrap (IntKind.i64.wrap (atp f l k + (br l).1.getD (k : Int).toNat 0) + ((l.getD (0 + ((k : Nat) : Int).toNat) []).getD (0 + 1 + 1) (D.n 0)).int)))
            rw [eY, eA]
            have g1 := of_decide_eq_true (show decide (Okk f l k) = true from g1)
            have g2 := of_decide_eq_true (show decide (Mg (IntKind.i64.wrap (atp f l k + (br l).1.getD (k : Int).toNat 0))) = true from g2)
            rw [eY] at g2
            by_cases e : Mg (atp f l (k + 1))
            · rw [decide_eq_true e]
              refine decide_eq_true (fun i hi => ?_)
              by_cases q : i = k
              · subst q; exact ⟨g2, e⟩
              · exact g1 i (by omega)
            · rw [decide_eq_false e]
              exact decide_eq_false (fun h => e (h k (by omega)).2)
          · show yl f l (k + 1) = yl f l k ++ [IntKind.i64.wrap (atp f l k + (br l).1.getD (k : Int).toNat 0)]
            rw [eY, yl_succ]
      · intro _
        refine ⟨rfl, ?_⟩
        intro _; refine ⟨fun g3 => by simp at g3, fun _ => ?_⟩
        refine ⟨⟨(yl_len f l k).symm, by simp; omega, by simp; omega⟩, ?_⟩
        intro _
        refine call_pure [] (end_ok ((l.getD (0 + ((k : Nat) : Int).toNat) []).getD 0 (D.n 0)).int ((l.getD (0 + ((k : Nat) : Int).toNat) []).getD (0 + 1) (D.n 0)).int ((l.getD (0 + ((k : Nat) : Int).toNat) []).getD (0 + 1 + 1) (D.n 0)).int (IntKind.i64.wrap (atp f l k + (br l).1.getD (k : Int).toNat 0))) rfl rfl rfl ?_ ?_ ?_
        · (repeat' first | exact trivial | exact rfl | refine And.intro ?_ ?_)
        · (repeat' first | exact trivial | exact rfl | refine And.intro ?_ ?_)
        intro v hv _
        subst hv
        intro _
        intro _
        refine ⟨by kernel_rfl, ?_⟩
        refine ⟨⟨k + 1, by omega⟩, by simp; omega, th [(4, some 8)] 5, rfl, rfl, rfl, rfl, rfl, rfl, ?_, ?_⟩
        · (repeat' first | exact trivial | exact rfl | refine And.intro ?_ ?_)
          · show atp f l (k + 1) = IntKind.i64.wrap (IntKind.i64.wrap (atp f l k + (br l).1.getD (k : Int).toNat 0) + ((l.getD (0 + ((k : Nat) : Int).toNat) []).getD (0 + 1 + 1) (D.n 0)).int)
            rw [eY, eA]
          · exact (wrap_nat k (by omega)).symm
        · (repeat' first | exact trivial | exact rfl | refine And.intro ?_ ?_)
          · show decide (Okk f l (k + 1)) = false
            have g2 := of_decide_eq_false (show decide (Mg (IntKind.i64.wrap (atp f l k + (br l).1.getD (k : Int).toNat 0))) = false from g2)
            rw [eY] at g2
            exact decide_eq_false (fun h => g2 (h k (by omega)).1)
          · show yl f l (k + 1) = yl f l k ++ [IntKind.i64.wrap (atp f l k + (br l).1.getD (k : Int).toNat 0)]
            rw [eY, yl_succ]
    · intro _
      refine ⟨rfl, ?_⟩
      intro _; refine ⟨fun g3 => by simp at g3, fun _ => ?_⟩
      refine ⟨⟨(yl_len f l k).symm, by simp; omega, by simp; omega⟩, ?_⟩
      intro _
      refine call_pure [] (end_ok ((l.getD (0 + ((k : Nat) : Int).toNat) []).getD 0 (D.n 0)).int ((l.getD (0 + ((k : Nat) : Int).toNat) []).getD (0 + 1) (D.n 0)).int ((l.getD (0 + ((k : Nat) : Int).toNat) []).getD (0 + 1 + 1) (D.n 0)).int (IntKind.i64.wrap (atp f l k + (br l).1.getD (k : Int).toNat 0))) rfl rfl rfl ?_ ?_ ?_
      · (repeat' first | exact trivial | exact rfl | refine And.intro ?_ ?_)
      · (repeat' first | exact trivial | exact rfl | refine And.intro ?_ ?_)
      intro v hv _
      subst hv
      intro _
      intro _
      refine ⟨by kernel_rfl, ?_⟩
      refine ⟨⟨k + 1, by omega⟩, by simp; omega, th [(4, some 8)] 5, rfl, rfl, rfl, rfl, rfl, rfl, ?_, ?_⟩
      · (repeat' first | exact trivial | exact rfl | refine And.intro ?_ ?_)
        · show atp f l (k + 1) = IntKind.i64.wrap (IntKind.i64.wrap (atp f l k + (br l).1.getD (k : Int).toNat 0) + ((l.getD (0 + ((k : Nat) : Int).toNat) []).getD (0 + 1 + 1) (D.n 0)).int)
          rw [eY, eA]
        · exact (wrap_nat k (by omega)).symm
      · (repeat' first | exact trivial | exact rfl | refine And.intro ?_ ?_)
        · show decide (Okk f l (k + 1)) = false
          have g1 := of_decide_eq_false (show decide (Okk f l k) = false from g1)
          exact decide_eq_false (fun h => g1 (fun i hi => h i (by omega)))
        · show yl f l (k + 1) = yl f l k ++ [IntKind.i64.wrap (atp f l k + (br l).1.getD (k : Int).toNat 0)]
          rw [eY, yl_succ]
  · have hkl : k = l.length := by simp at g; omega
    subst hkl
    have e3 : (l.length : Int).toNat = l.length := by omega
    have eY : IntKind.i64.wrap (atp f l l.length + (br l).1.getD (l.length : Int).toNat 0) = ys f l l.length := by
      have b := atp_bd hb hf l.length (by omega)
      have b2 := gap_mg hb (k := l.length) (by omega)
      have := b2.1
      have := b2.2
      rw [e3, eb, btw_get l (by omega)]
      show IntKind.i64.wrap (atp f l l.length + gap l l.length) = atp f l l.length + gap l l.length
      rw [IntKind.wrap_i64]; omega
    intro _; refine ⟨show 0 ≤ (l.length : Int) ∧ (l.length : Int) < ((br l).1.length : Int) by omega, ?_⟩
    intro _; refine ⟨show (l.length : Int).toNat < (br l).1.length by omega, ?_⟩
    have bad : ¬ (Okk f l l.length ∧ Mg (ys f l l.length)) → pr f l = ([], 0, 3) := fun h => by unfold pr; rw [if_neg (by omega), if_neg (fun h => h ⟨hb, hf⟩), if_neg h]
    intro _; refine ⟨fun g1 => ?_, fun g1 => ?_⟩
    · have g1 : (!decide (Okk f l l.length)) = true := g1
      rw [Bool.not_eq_true'] at g1
      have g1 := of_decide_eq_false g1
      intro _
      exact fin 3 (bad (fun h => g1 h.1)) _ _ rfl
    · have g1 : (!decide (Okk f l l.length)) = false := g1
      rw [Bool.not_eq_false'] at g1
      have g1 := of_decide_eq_true g1
      intro _
      refine coord_test _ _ _ ?_
      intro _; refine ⟨fun g2 => ?_, fun g2 => ?_⟩
      · have g2 : (!decide (Mg (IntKind.i64.wrap (atp f l l.length + (br l).1.getD (l.length : Int).toNat 0)))) = true := g2
        rw [Bool.not_eq_true', eY] at g2
        have g2 := of_decide_eq_false g2
        intro _
        exact fin 3 (bad (fun h => g2 h.2)) _ _ rfl
      · have g2 : (!decide (Mg (IntKind.i64.wrap (atp f l l.length + (br l).1.getD (l.length : Int).toNat 0)))) = false := g2
        rw [Bool.not_eq_false', eY] at g2
        have g2 := of_decide_eq_true g2
        have ep : pr f l = (yl f l l.length, ys f l l.length, 0) := by unfold pr; rw [if_neg (by omega), if_neg (fun h => h ⟨hb, hf⟩), if_pos ⟨g1, g2⟩]
        intro _
        refine ⟨[(1, some 4)], .tup [.grw 1 (pr f l).1.length, .int .i64 (pr f l).2.1, .int .i64 (pr f l).2.2], ⟨2, 1, [(1, .arr [.int .i64] .grow (.ints (pr f l).1))]⟩, rfl, rfl, rfl, rfl, ?_, ?_, ⟨rfl, rfl⟩⟩
        · rw [ep]
          (repeat' first | exact trivial | exact rfl | refine And.intro ?_ ?_)
          · exact yl_len f l _
          · exact eY.symm
        · rw [ep]
          (repeat' first | exact trivial | exact rfl | refine And.intro ?_ ?_)
theorem rplace_all (f : Int) (l : Rows) (hl : l.length ≤ 9223372036854775806) : SemF Try.prog 31 [.int .i64 f, .slc 0 3 0 l.length] ⟨1, 1, [(0, .arr [.int .i64, .int .i64, .int .i64] .rd (.recs l))]⟩ (PQ f l) := by
  refine SemF.ret ?_
  refine enter tt_ok Try.func31 (nt := 73) (cd := body Try.f31) rfl rfl rfl rfl ?_
  have fin : ∀ e : Int, pr f l = ([], 0, e) → ∀ nx hx, Nat.ble 1 nx = true → Ret 1 (PQ f l) (.tup [.nils, .int .i64 0, .int .i64 e]) ⟨nx, 1, hx⟩ := fun e he nx hx hn => by
    refine ⟨[(1, none)], .tup [.grw 1 0, .int .i64 0, .int .i64 e], ⟨2, 1, [(1, .arr [.int .i64] .grow (.ints []))]⟩, rfl, rfl, rfl, rfl, ?_, ?_, ?_, ?_⟩
    · (repeat' first | exact trivial | exact rfl | refine And.intro ?_ ?_)
    · (repeat' first | exact trivial | exact rfl | refine And.intro ?_ ?_)
    · rw [he]; rfl
    · rw [he]
  intro _
  refine call_new [(0, some 0)] (rbetween_all l hl) rfl rfl rfl rfl ?_ ?_ ?_
  · (repeat' first | exact trivial | exact rfl | refine And.intro ?_ ?_)
  · (repeat' first | exact trivial | exact rfl | refine And.intro ?_ ?_)
  intro v h' hv
  obtain ⟨rfl, rfl⟩ := hv
  refine ⟨[(1, some 1)], 2, [(1, .arr [.int .i64] .grow (.ints (br l).1))], .tup [.grw 1 (br l).1.length, .int .i64 (br l).2], rfl, rfl, rfl, rfl, rfl, ?_, ?_, ?_⟩
  · (repeat' first | exact trivial | exact rfl | refine And.intro ?_ ?_)
  · (repeat' first | exact trivial | exact rfl | refine And.intro ?_ ?_)
  intro _; refine ⟨fun g => ?_, fun g => ?_⟩
  · have g : ((br l).2 == 2) = true := g
    have hl4 : 4000 < l.length := by
      unfold br at g
      split at g
      · assumption
      · split at g <;> simp at g
    have e : br l = ([], 2) := by unfold br; rw [if_pos hl4]
    intro _
    rw [e]
    exact fin 2 (by unfold pr; rw [if_pos hl4]) _ _ rfl
  have hl4 : l.length ≤ 4000 := by
    have g : ((br l).2 == 2) = false := g
    rcases Nat.lt_or_ge 4000 l.length with h | h
    · unfold br at g; rw [if_pos h] at g; simp at g
    · exact h
  intro _; refine ⟨fun g => ?_, fun g => ?_⟩
  · have g : ((br l).2 != 0) = true := g
    have hb : ¬ AllGood l := fun h => by unfold br at g; rw [if_neg (by omega), if_pos h] at g; simp at g
    intro _
    exact fin 1 (by unfold pr; rw [if_neg (by omega), if_pos (fun h => hb h.1)]) _ _ rfl
  have hb : AllGood l := by
    have g : ((br l).2 != 0) = false := g
    by_cases h : AllGood l
    · exact h
    · unfold br at g; rw [if_neg (by omega), if_neg h] at g; simp at g
  have eb : br l = (btw l (l.length + 1), 0) := by unfold br; rw [if_neg (by omega), if_pos hb]
  have lb : (br l).1.length = l.length + 1 := by rw [eb]; exact btw_len l _
  intro _
  refine rcoord_test _ _ _ ?_
  intro _; refine ⟨fun g => ?_, fun g => ?_⟩
  · have g : (!decide (Mg f)) = true := g
    rw [Bool.not_eq_true'] at g
    have g := of_decide_eq_false g
    intro _
    exact fin 1 (by unfold pr; rw [if_neg (by omega), if_pos (fun h => g h.2)]) _ _ rfl
  have g : (!decide (Mg f)) = false := g
  rw [Bool.not_eq_false'] at g
  have hf := of_decide_eq_true g
  have bad : ¬ (Okk f l l.length ∧ Mg (ys f l l.length)) → pr f l = ([], 0, 3) := fun h => by unfold pr; rw [if_neg (by omega), if_neg (fun h => h ⟨hb, hf⟩), if_neg h]
  have eYs : ∀ k, k ≤ l.length → IntKind.i64.wrap (atp f l k + (br l).1.getD (k : Int).toNat 0) = ys f l k := fun k hk => by
    have e3 : (k : Int).toNat = k := by omega
    have b := atp_bd hb hf k (by omega)
    have b2 := gap_mg hb (k := k) (by omega)
    have := b2.1
    have := b2.2
    rw [e3, eb, btw_get l (by omega)]
    show IntKind.i64.wrap (atp f l k + gap l k) = atp f l k + gap l k
    rw [IntKind.wrap_i64]; omega
  intro _
  refine loop2 tt_ok [9, 10, 11] [] 3 (fun k : { k : Nat // k ≤ l.length ∧ Okk f l k } => [(9, .grw 2 k), (10, .int .i64 (atp f l k)), (11, .int .i64 (k : Nat))]) (fun k => [(2, .arr [.int .i64] .grow (.ints (yl f l k)))]) (fun k => l.length - k) ⟨0, by omega, fun i hi => by omega⟩ ?_
  intro _
  refine ⟨⟨th [(2, none)] 3, rfl, rfl, rfl, rfl, rfl, rfl, ?_, ?_⟩, ?_⟩
  · (repeat' first | exact trivial | exact rfl | refine And.intro ?_ ?_)
  · (repeat' first | exact trivial | exact rfl | refine And.intro ?_ ?_)
  intro ⟨k, hk, hok⟩
  intro _; refine ⟨fun g => ?_, fun g => ?_⟩
  · have hkl : k < l.length := by simp at g; omega
    have e0 : 0 + ((k : Int)).toNat = k := by omega
    have eY := eYs k (by omega)
    have eA : IntKind.i64.wrap (ys f l k + ((l.getD (0 + ((k : Nat) : Int).toNat) []).getD 2 (D.n 0)).int) = atp f l (k + 1) := by
      rw [e0]
      have b := atp_bd hb hf (k + 1) (by omega)
      show IntKind.i64.wrap (ys f l k + hh l k) = ys f l k + hh l k
      have e : ys f l k + hh l k = atp f l (k + 1) := rfl
      rw [e, IntKind.wrap_i64]; omega
    intro _; refine ⟨show 0 ≤ (k : Int) ∧ (k : Int) < ((br l).1.length : Int) by omega, ?_⟩
    intro _; refine ⟨show (k : Int).toNat < (br l).1.length by omega, ?_⟩
    intro _; refine ⟨by simp; omega, ?_⟩
    intro _; refine ⟨by simp [AC.len]; omega, ?_⟩
    intro _
    refine rcoord_test _ _ _ ?_
    intro _; refine ⟨fun g1 => ?_, fun g1 => ?_⟩
    · have g1 : (!decide (Mg (IntKind.i64.wrap (atp f l k + (br l).1.getD (k : Int).toNat 0)))) = true := g1
      rw [Bool.not_eq_true', eY] at g1
      have g1 := of_decide_eq_false g1
      intro _
      exact fin 3 (bad (fun h => g1 (h.1 k hkl).1)) _ _ rfl
    · have g1 : (!decide (Mg (IntKind.i64.wrap (atp f l k + (br l).1.getD (k : Int).toNat 0)))) = false := g1
      rw [Bool.not_eq_false', eY] at g1
      have g1 := of_decide_eq_true g1
      intro _
      refine rcoord_test _ _ _ ?_
      intro _; refine ⟨fun g2 => ?_, fun g2 => ?_⟩
      · have g2 : (!decide (Mg (IntKind.i64.wrap (IntKind.i64.wrap (atp f l k + (br l).1.getD (k : Int).toNat 0) + ((l.getD (0 + ((k : Nat) : Int).toNat) []).getD 2 (D.n 0)).int)))) = true := g2
        rw [Bool.not_eq_true', eY, eA] at g2
        have g2 := of_decide_eq_false g2
        intro _
        exact fin 3 (bad (fun h => g2 (h.1 k hkl).2)) _ _ rfl
      · have g2 : (!decide (Mg (IntKind.i64.wrap (IntKind.i64.wrap (atp f l k + (br l).1.getD (k : Int).toNat 0) + ((l.getD (0 + ((k : Nat) : Int).toNat) []).getD 2 (D.n 0)).int)))) = false := g2
        rw [Bool.not_eq_false', eY, eA] at g2
        have g2 := of_decide_eq_true g2
        intro _
        refine ⟨rfl, ?_⟩
        intro _; refine ⟨fun g3 => by simp at g3, fun _ => ?_⟩
        refine ⟨⟨(yl_len f l k).symm, by simp; omega, by simp; omega⟩, ?_⟩
        refine ⟨⟨k + 1, by omega, fun i hi => ?_⟩, by simp; omega, th [(2, some 4)] 3, rfl, rfl, rfl, rfl, rfl, rfl, ?_, ?_⟩
        · by_cases q : i = k
          · subst q; exact ⟨g1, g2⟩
          · exact hok i (by omega)
        · (repeat' first | exact trivial | exact rfl | refine And.intro ?_ ?_)
          · show atp f l (k + 1) = IntKind.i64.wrap (IntKind.i64.wrap (atp f l k + (br l).1.getD (k : Int).toNat 0) + ((l.getD (0 + ((k : Nat) : Int).toNat) []).getD 2 (D.n 0)).int)
            rw [eY, eA]
          · exact (wrap_nat k (by omega)).symm
        · (repeat' first | exact trivial | exact rfl | refine And.intro ?_ ?_)
          · show yl f l (k + 1) = yl f l k ++ [IntKind.i64.wrap (atp f l k + (br l).1.getD (k : Int).toNat 0)]
            rw [eY, yl_succ]
  · have hkl : k = l.length := by simp at g; omega
    subst hkl
    have eY := eYs l.length (Nat.le_refl _)
    intro _; refine ⟨show 0 ≤ (l.length : Int) ∧ (l.length : Int) < ((br l).1.length : Int) by omega, ?_⟩
    intro _; refine ⟨show (l.length : Int).toNat < (br l).1.length by omega, ?_⟩
    intro _
    refine rcoord_test _ _ _ ?_
    intro _; refine ⟨fun g2 => ?_, fun g2 => ?_⟩
    · have g2 : (!decide (Mg (IntKind.i64.wrap (atp f l l.length + (br l).1.getD (l.length : Int).toNat 0)))) = true := g2
      rw [Bool.not_eq_true', eY] at g2
      have g2 := of_decide_eq_false g2
      intro _
      exact fin 3 (bad (fun h => g2 h.2)) _ _ rfl
    · have g2 : (!decide (Mg (IntKind.i64.wrap (atp f l l.length + (br l).1.getD (l.length : Int).toNat 0)))) = false := g2
      rw [Bool.not_eq_false', eY] at g2
      have g2 := of_decide_eq_true g2
      have ep : pr f l = (yl f l l.length, ys f l l.length, 0) := by unfold pr; rw [if_neg (by omega), if_neg (fun h => h ⟨hb, hf⟩), if_pos ⟨hok, g2⟩]
      intro _
      refine ⟨[(1, some 2)], .tup [.grw 1 (pr f l).1.length, .int .i64 (pr f l).2.1, .int .i64 (pr f l).2.2], ⟨2, 1, [(1, .arr [.int .i64] .grow (.ints (pr f l).1))]⟩, rfl, rfl, rfl, rfl, ?_, ?_, ⟨rfl, rfl⟩⟩
      · rw [ep]
        (repeat' first | exact trivial | exact rfl | refine And.intro ?_ ?_)
        · exact yl_len f l _
        · exact eY.symm
      · rw [ep]
        (repeat' first | exact trivial | exact rfl | refine And.intro ?_ ?_)
/-- items that can be placed -/
def RT (f : Int) (l : Rows) : Prop := l.length ≤ 60 ∧ (pr f l).2.2 = 0
instance (f : Int) (l : Rows) : Decidable (RT f l) := inferInstanceAs (Decidable (_ ∧ _))
theorem pr_zero {f : Int} {l : Rows} (h : (pr f l).2.2 = 0) : pr f l = (yl f l l.length, ys f l l.length, 0) ∧ AllGood l ∧ Mg f ∧ Okk f l l.length ∧ Mg (ys f l l.length) := by
  revert h
  unfold pr
  split
  · intro h; simp at h
  · split
    · intro h; simp at h
    · rename_i h1
      split
      · rename_i h2
        have h1 := Decidable.not_not.1 h1
        intro _; exact ⟨rfl, h1.1, h1.2, h2.1, h2.2⟩
      · intro h; simp at h
theorem pr_of {f : Int} {l : Rows} (h0 : l.length ≤ 4000) (h1 : AllGood l) (h2 : Mg f) (h3 : Okk f l l.length) (h4 : Mg (ys f l l.length)) : pr f l = (yl f l l.length, ys f l l.length, 0) := by
  unfold pr; rw [if_neg (by omega), if_neg (fun h => h ⟨h1, h2⟩), if_pos ⟨h3, h4⟩]
theorem right_all (f : Int) (l : Rows) (hl : l.length ≤ 9223372036854775807) : SemF Try.prog 37 [.int .i64 f, .slc 0 3 0 l.length] ⟨1, 1, [(0, .arr [.int .i64, .int .i64, .int .i64] .rd (.recs l))]⟩ (fun v _ => v = .test (decide (RT f l)) ∧ nameless v = true) := by
  refine SemF.test ?_
  refine enter tt_ok Try.func37 (nt := 20) (cd := body Try.f37) rfl rfl rfl rfl ?_
  intro _; refine ⟨fun g => ?_, fun g => ?_⟩
  · have g := of_decide_eq_true (show decide ((l.length : Int) > 60) = true from g)
    intro _
    exact ⟨false, .inl rfl, by rw [decide_eq_false (fun h : RT f l => by have := h.1; omega)], rfl⟩
  · have g := of_decide_eq_false (show decide ((l.length : Int) > 60) = false from g)
    intro _
    refine call_new [(0, some 0)] (rplace_all f l (by omega)) rfl rfl rfl rfl ?_ ?_ ?_
    · (repeat' first | exact trivial | exact rfl | refine And.intro ?_ ?_)
    · (repeat' first | exact trivial | exact rfl | refine And.intro ?_ ?_)
    intro v h' hv
    obtain ⟨rfl, rfl⟩ := hv
    refine ⟨[(1, some 1)], 2, [(1, .arr [.int .i64] .grow (.ints (pr f l).1))], .tup [.grw 1 (pr f l).1.length, .int .i64 (pr f l).2.1, .int .i64 (pr f l).2.2], rfl, rfl, rfl, rfl, rfl, ?_, ?_, ?_⟩
    · (repeat' first | exact trivial | exact rfl | refine And.intro ?_ ?_)
    · (repeat' first | exact trivial | exact rfl | refine And.intro ?_ ?_)
    intro _
    refine ⟨(pr f l).2.2 == 0, .inr rfl, ?_, rfl⟩
    have : ((pr f l).2.2 == 0) = decide (RT f l) := by
      by_cases e : (pr f l).2.2 = 0
      · rw [decide_eq_true (show RT f l from ⟨by omega, e⟩), e]; rfl
      · rw [decide_eq_false (fun h : RT f l => e h.2)]; simp [e]
    rw [this]
def pl (f : Int) (l : Rows) : List Int × Int := if RT f l then (yl f l l.length, ys f l l.length) else ([], 0)
def LQ (f : Int) (l : Rows) : V → H → Prop := fun v h' => v = .tup [.grw 1 (pl f l).1.length, .int .i64 (pl f l).2, .test (decide (RT f l))] ∧ h' = ⟨2, 1, [(1, .arr [.int .i64] .grow (.ints (pl f l).1))]⟩
theorem placed_all (f : Int) (l : Rows) (hl : l.length ≤ 9223372036854775807) : SemF Try.prog 38 [.int .i64 f, .slc 0 3 0 l.length] ⟨1, 1, [(0, .arr [.int .i64, .int .i64, .int .i64] .rd (.recs l))]⟩ (LQ f l) := by
  refine SemF.ret ?_
  refine enter tt_ok Try.func38 (nt := 43) (cd := body Try.f38) rfl rfl rfl rfl ?_
  have fin : ¬ RT f l → ∀ nx hx, Nat.ble 1 nx = true → Ret 1 (LQ f l) (.tup [.nils, .int .i64 0, .bool false]) ⟨nx, 1, hx⟩ := fun he nx hx hn => by
    have e1 : pl f l = ([], 0) := by unfold pl; rw [if_neg he]
    refine ⟨[(1, none)], .tup [.grw 1 0, .int .i64 0, .test false], ⟨2, 1, [(1, .arr [.int .i64] .grow (.ints []))]⟩, rfl, rfl, rfl, rfl, ?_, ?_, ?_, ?_⟩
    · (repeat' first | exact trivial | exact rfl | refine And.intro ?_ ?_)
    · (repeat' first | exact trivial | exact rfl | refine And.intro ?_ ?_)
    · rw [e1, decide_eq_false he]; rfl
    · rw [e1]
  intro _; refine ⟨fun g => ?_, fun g => ?_⟩
  · have g := of_decide_eq_true (show decide ((l.length : Int) > 60) = true from g)
    intro _
    exact fin (fun h => by have := h.1; omega) _ _ rfl
  · have g0 := of_decide_eq_false (show decide ((l.length : Int) > 60) = false from g)
    intro _
    refine call_new [(0, some 0)] (rplace_all f l (by omega)) rfl rfl rfl rfl ?_ ?_ ?_
    · (repeat' first | exact trivial | exact rfl | refine And.intro ?_ ?_)
    · (repeat' first | exact trivial | exact rfl | refine And.intro ?_ ?_)
    intro v h' hv
    obtain ⟨rfl, rfl⟩ := hv
    refine ⟨[(1, some 1)], 2, [(1, .arr [.int .i64] .grow (.ints (pr f l).1))], .tup [.grw 1 (pr f l).1.length, .int .i64 (pr f l).2.1, .int .i64 (pr f l).2.2], rfl, rfl, rfl, rfl, rfl, ?_, ?_, ?_⟩
    · (repeat' first | exact trivial | exact rfl | refine And.intro ?_ ?_)
    · (repeat' first | exact trivial | exact rfl | refine And.intro ?_ ?_)
    intro _; refine ⟨fun g => ?_, fun g => ?_⟩
    · have g : ((pr f l).2.2 != 0) = true := g
      intro _
      exact fin (fun h => by rw [h.2] at g; simp at g) _ _ rfl
    · have g : ((pr f l).2.2 != 0) = false := g
      have hz : (pr f l).2.2 = 0 := by simpa using g
      obtain ⟨ep, _⟩ := pr_zero hz
      have hrt : RT f l := ⟨by omega, hz⟩
      intro _
      refine call_new [(0, some 0)] (place_all f l (by omega)) rfl rfl rfl rfl ?_ ?_ ?_
      · (repeat' first | exact trivial | exact rfl | refine And.intro ?_ ?_)
      · (repeat' first | exact trivial | exact rfl | refine And.intro ?_ ?_)
      intro v h' hv
      obtain ⟨rfl, rfl⟩ := hv
      refine ⟨[(2, some 1)], 3, [(2, .arr [.int .i64] .grow (.ints (pr f l).1))], .tup [.grw 2 (pr f l).1.length, .int .i64 (pr f l).2.1, .int .i64 (pr f l).2.2], rfl, rfl, rfl, rfl, rfl, ?_, ?_, ?_⟩
      · (repeat' first | exact trivial | exact rfl | refine And.intro ?_ ?_)
      · (repeat' first | exact trivial | exact rfl | refine And.intro ?_ ?_)
      intro _; refine ⟨fun g => ?_, fun _ => ?_⟩
      · exfalso
        have g : ((pr f l).2.2 != 0) = true := g
        rw [hz] at g; simp at g
      intro _; refine ⟨fun g => ?_, fun _ => ?_⟩
      · exfalso
        have g : (((pr f l).1.length : Int) != (l.length : Int)) = true := g
        rw [ep, yl_len] at g; simp at g
      have e1 : pl f l = (yl f l l.length, ys f l l.length) := by unfold pl; rw [if_pos hrt]
      intro _
      refine ⟨[(1, some 2)], .tup [.grw 1 (pl f l).1.length, .int .i64 (pl f l).2, .test (decide (RT f l))], ⟨2, 1, [(1, .arr [.int .i64] .grow (.ints (pl f l).1))]⟩, rfl, rfl, rfl, rfl, ?_, ?_, ⟨rfl, rfl⟩⟩
      · rw [e1, ep, decide_eq_true hrt]
        (repeat' first | exact trivial | exact rfl | refine And.intro ?_ ?_)
      · rw [e1, ep]
        (repeat' first | exact trivial | exact rfl | refine And.intro ?_ ?_)
theorem wrapS (n : Int) (h : -9000000000000000000 ≤ n ∧ n ≤ 9000000000000000000) : IntKind.i64.wrap n = n := by rw [IntKind.wrap_i64]; omega
theorem yl_get (f : Int) (l : Rows) {k i : Nat} (h : i < k) : (yl f l k).getD i 0 = ys f l i := by
  rw [List.getD_eq_getElem?_getD, List.getElem?_eq_getElem (by rw [yl_len]; exact h)]
  simp [yl]
theorem ys_zero (f : Int) (l : Rows) : ys f l 0 = f + ab l 0 := by
  simp only [ys, atp, gap, bl, jn, mx, mn, List.foldl_cons, List.foldl_nil]
  simp; omega
theorem sub_get {A : List Int} {o n i : Nat} (h : o + n ≤ A.length) (hi : i < n) : ((A.drop o).take n).getD i 0 = A.getD (o + i) 0 := by
  rw [List.getD_eq_getElem?_getD, List.getD_eq_getElem?_getD, List.getElem?_take_of_lt hi, List.getElem?_drop]
theorem sub_len {A : List Int} {o n : Nat} (h : o + n ≤ A.length) : ((A.drop o).take n).length = n := by rw [List.length_take, List.length_drop]; omega
/-- SameInts, of parts of lists -/
theorem same_sl (A B : List Int) (oa na ob nb : Nat) (ha : oa + na ≤ A.length) (hb : ob + nb ≤ B.length) (hA : na ≤ 9223372036854775807) : SemF Try.prog 32 [.slc 0 1 oa na, .slc 1 1 ob nb] ⟨2, 2, [(0, .arr [.int .i64] .rd (.ints A)), (1, .arr [.int .i64] .rd (.ints B))]⟩
    (fun v _ => v = .bool (decide ((A.drop oa).take na = (B.drop ob).take nb)) ∧ nameless v = true) := by
  refine enter tt_ok Try.func32 (nt := 26) (cd := body Try.f32) rfl rfl rfl rfl ?_
  have la := sub_len ha
  have lb := sub_len hb
  intro _; refine ⟨fun g => ?_, fun g => ?_⟩
  · intro _
    refine ⟨?_, rfl⟩
    have g : ((na : Int) != (nb : Int)) = true := g
    have : (A.drop oa).take na ≠ (B.drop ob).take nb := fun e => by rw [e, lb] at la; subst la; simp at g
    rw [decide_eq_false this]
  have hab : na = nb := by
    have g : ((na : Int) != (nb : Int)) = false := g
    have g2 := g; simp at g2; omega
  intro _
  refine loop2 tt_ok [5] [] 2 (fun k : { k : Nat // k ≤ na ∧ ∀ i, i < k → A.getD (oa + i) 0 = B.getD (ob + i) 0 } => [(5, .int .i64 k)]) (fun _ => []) (fun k => na - k) ⟨0, by omega, fun i h => by omega⟩ ?_
  intro _
  refine ⟨⟨th [] 2, rfl, rfl, rfl, rfl, rfl, rfl, ?_, ?_⟩, ?_⟩
  · (repeat' first | exact trivial | exact rfl | refine And.intro ?_ ?_)
  · (repeat' first | exact trivial | exact rfl | refine And.intro ?_ ?_)
  intro ⟨k, hk, hmk⟩
  intro _; refine ⟨fun g => ?_, fun g => ?_⟩
  · have g := of_decide_eq_true (show decide ((k : Int) < (na : Int)) = true from g)
    have ea : oa + ((k : Int)).toNat = oa + k := by omega
    have eb : ob + ((k : Int)).toNat = ob + k := by omega
    intro _; refine ⟨show 0 ≤ (k : Int) ∧ (k : Int) < (na : Int) by omega, ?_⟩
    intro _; refine ⟨show oa + (k : Int).toNat < A.length by omega, ?_⟩
    intro _; refine ⟨show 0 ≤ (k : Int) ∧ (k : Int) < (nb : Int) by omega, ?_⟩
    intro _; refine ⟨show ob + (k : Int).toNat < B.length by omega, ?_⟩
    intro _; refine ⟨by kernel_rfl, ?_⟩
    intro _; refine ⟨fun g2 => ?_, fun g2 => ?_⟩
    · have g2 : (A.getD (oa + ((k : Int)).toNat) 0 != B.getD (ob + ((k : Int)).toNat) 0) = true := g2
      rw [ea, eb] at g2
      intro _
      refine ⟨?_, rfl⟩
      have : (A.drop oa).take na ≠ (B.drop ob).take nb := fun e => by
        have h1 := sub_get ha (i := k) (by omega)
        have h2 := sub_get hb (i := k) (by omega)
        rw [e, h2] at h1
        rw [h1] at g2
        simp at g2
      rw [decide_eq_false this]
    · have g2 : (A.getD (oa + ((k : Int)).toNat) 0 != B.getD (ob + ((k : Int)).toNat) 0) = false := g2
      rw [ea, eb] at g2
      refine ⟨⟨k + 1, by omega, fun i hi => ?_⟩, by simp; omega, th [] 2, rfl, rfl, rfl, rfl, rfl, rfl, ?_, ?_⟩
      · by_cases e : i = k
        · subst e; simpa using g2
        · exact hmk i (by omega)
      · (repeat' first | exact trivial | exact rfl | refine And.intro ?_ ?_)
        exact (wrap_nat k (by omega)).symm
      · (repeat' first | exact trivial | exact rfl | refine And.intro ?_ ?_)
  · have g := of_decide_eq_false (show decide ((k : Int) < (na : Int)) = false from g)
    intro _
    refine ⟨?_, rfl⟩
    have : (A.drop oa).take na = (B.drop ob).take nb := by
      refine List.ext_getElem (by omega) (fun i h1 h2 => ?_)
      have h3 := sub_get ha (i := i) (by omega)
      have h4 := sub_get hb (i := i) (by omega)
      rw [List.getD_eq_getElem?_getD, List.getElem?_eq_getElem h1] at h3
      rw [List.getD_eq_getElem?_getD, List.getElem?_eq_getElem h2] at h4
      have h5 := hmk i (by omega)
      rw [← h4, ← h3] at h5
      exact h5
    rw [decide_eq_true this]
theorem getD_l {a b : Rows} {i : Nat} (h : i < a.length) : (a ++ b).getD i [] = a.getD i [] := by
  rw [List.getD_eq_getElem?_getD, List.getD_eq_getElem?_getD, List.getElem?_append_left h]
theorem getD_r {a b : Rows} {i : Nat} (h : a.length ≤ i) : (a ++ b).getD i [] = b.getD (i - a.length) [] := by
  rw [List.getD_eq_getElem?_getD, List.getD_eq_getElem?_getD, List.getElem?_append_right h]
theorem ab_l {a b : Rows} {i : Nat} (h : i < a.length) : ab (a ++ b) i = ab a i := by unfold ab; rw [getD_l h]
theorem be_l {a b : Rows} {i : Nat} (h : i < a.length) : be (a ++ b) i = be a i := by unfold be; rw [getD_l h]
theorem hh_l {a b : Rows} {i : Nat} (h : i < a.length) : hh (a ++ b) i = hh a i := by unfold hh; rw [getD_l h]
theorem ab_r {a b : Rows} {i : Nat} (h : a.length ≤ i) : ab (a ++ b) i = ab b (i - a.length) := by unfold ab; rw [getD_r h]
theorem be_r {a b : Rows} {i : Nat} (h : a.length ≤ i) : be (a ++ b) i = be b (i - a.length) := by unfold be; rw [getD_r h]
theorem hh_r {a b : Rows} {i : Nat} (h : a.length ≤ i) : hh (a ++ b) i = hh b (i - a.length) := by unfold hh; rw [getD_r h]
theorem bl_l {a b : Rows} {i : Nat} (h : i ≤ a.length) : bl (a ++ b) i = bl a i := by
  cases i with
  | zero => rfl
  | succ i => exact be_l (by omega)
theorem bl_r {a b : Rows} {i : Nat} (h : a.length < i) : bl (a ++ b) i = bl b (i - a.length) := by
  cases i with
  | zero => omega
  | succ i =>
    have : i + 1 - a.length = (i - a.length) + 1 := by omega
    rw [this]
    exact be_r (by omega)
theorem pr_bad {f : Int} {l : Rows} (h : (pr f l).2.2 ≠ 0) : (pr f l).2.1 = 0 := by
  revert h
  unfold pr
  split
  · intro _; rfl
  · split
    · intro _; rfl
    · split
      · intro h; exact absurd rfl h
      · intro _; rfl
theorem pr_len (f : Int) (l : Rows) : (pr f l).1.length ≤ 4000 := by
  unfold pr
  split
  · simp
  · split
    · simp
    · split
      · rw [yl_len]; omega
      · simp
def HV (l : Rows) : V := .tup [.int .i64 (max (pr 0 l).2.1 0), .int .i64 (pr 0 l).2.2]
theorem height_all (l : Rows) (hl : List.length l ≤ 9223372036854775806) : SemF Try.prog 33 [.slc 0 3 0 l.length] ⟨1, 1, [(0, .arr [.int .i64, .int .i64, .int .i64] .rd (.recs l))]⟩ (fun v _ => v = HV l ∧ nameless v = true) := by
  refine enter tt_ok Try.func33 (nt := 18) (cd := body Try.f33) rfl rfl rfl rfl ?_
  intro _
  refine call_new [(0, some 0)] (place_all 0 l (by omega)) rfl rfl rfl rfl ?_ ?_ ?_
  · (repeat' first | exact trivial | exact rfl | refine And.intro ?_ ?_)
  · (repeat' first | exact trivial | exact rfl | refine And.intro ?_ ?_)
  intro v h' hv
  obtain ⟨rfl, rfl⟩ := hv
  refine ⟨[(1, some 1)], 2, [(1, .arr [.int .i64] .grow (.ints (pr 0 l).1))], .tup [.grw 1 (pr 0 l).1.length, .int .i64 (pr 0 l).2.1, .int .i64 (pr 0 l).2.2], rfl, rfl, rfl, rfl, rfl, ?_, ?_, ?_⟩
  · (repeat' first | exact trivial | exact rfl | refine And.intro ?_ ?_)
  · (repeat' first | exact trivial | exact rfl | refine And.intro ?_ ?_)
  intro _; refine ⟨fun g => ?_, fun g => ?_⟩
  · have g : ((pr 0 l).2.2 != 0) = true := g
    have g : (pr 0 l).2.2 ≠ 0 := by simpa using g
    intro _
    refine ⟨?_, rfl⟩
    unfold HV
    rw [pr_bad g]; rfl
  · have g : ((pr 0 l).2.2 != 0) = false := g
    have g : (pr 0 l).2.2 = 0 := by simpa using g
    intro _
    refine ⟨?_, rfl⟩
    show V.tup [.int .i64 (max (pr 0 l).2.1 0), .int .i64 0] = HV l
    unfold HV
    rw [g]
theorem rheight_all (l : Rows) (hl : List.length l ≤ 9223372036854775806) : SemF Try.prog 34 [.slc 0 3 0 l.length] ⟨1, 1, [(0, .arr [.int .i64, .int .i64, .int .i64] .rd (.recs l))]⟩ (fun v _ => v = HV l ∧ nameless v = true) := by
  refine enter tt_ok Try.func34 (nt := 16) (cd := body Try.f34) rfl rfl rfl rfl ?_
  intro _
  refine call_new [(0, some 0)] (rplace_all 0 l (by omega)) rfl rfl rfl rfl ?_ ?_ ?_
  · (repeat' first | exact trivial | exact rfl | refine And.intro ?_ ?_)
  · (repeat' first | exact trivial | exact rfl | refine And.intro ?_ ?_)
  intro v h' hv
  obtain ⟨rfl, rfl⟩ := hv
  refine ⟨[(1, some 1)], 2, [(1, .arr [.int .i64] .grow (.ints (pr 0 l).1))], .tup [.grw 1 (pr 0 l).1.length, .int .i64 (pr 0 l).2.1, .int .i64 (pr 0 l).2.2], rfl, rfl, rfl, rfl, rfl, ?_, ?_, ?_⟩
  · (repeat' first | exact trivial | exact rfl | refine And.intro ?_ ?_)
  · (repeat' first | exact trivial | exact rfl | refine And.intro ?_ ?_)
  intro _
  exact ⟨rfl, rfl⟩
def cutv (h m : Int) : Int × Bool × Int := if h < 0 then (0, false, 1) else if h > 1000000000 then (0, false, 1) else if m < 0 then (0, false, 1) else if m > 1000000000 then (0, false, 1) else
  if m ≠ 0 ∧ m < h then (m, true, 0) else (h, false, 0)
def CV (h m : Int) : V := .tup [.int .i64 (cutv h m).1, .test (cutv h m).2.1, .int .i64 (cutv h m).2.2]
theorem cut_all (h m : Int) : SemF Try.prog 35 [.int .i64 h, .int .i64 m] ⟨0, 0, []⟩ (fun v _ => v = CV h m ∧ nameless v = true) := by
  refine SemF.ret ?_
  refine enter tt_ok Try.func35 (nt := 30) (cd := body Try.f35) rfl rfl rfl rfl ?_
  have fin : ∀ (a : Int) (b : Bool) (e : Int), cutv h m = (a, b, e) → Ret 0 (fun v _ => v = CV h m ∧ nameless v = true) (.tup [.int .i64 a, .bool b, .int .i64 e]) ⟨0, 0, []⟩ := fun a b e hc => by
    refine ⟨[], .tup [.int .i64 a, .test b, .int .i64 e], ⟨0, 0, []⟩, rfl, rfl, rfl, rfl, ?_, ?_, ?_, rfl⟩
    · (repeat' first | exact trivial | exact rfl | refine And.intro ?_ ?_)
    · (repeat' first | exact trivial | exact rfl | refine And.intro ?_ ?_)
    · unfold CV; rw [hc]
  intro _; refine ⟨fun g => ?_, fun g => ?_⟩
  · have g := of_decide_eq_true (show decide (h < 0) = true from g)
    intro _
    exact fin 0 false 1 (by unfold cutv; rw [if_pos g])
  have g1 := of_decide_eq_false (show decide (h < 0) = false from g)
  intro _; refine ⟨fun g => ?_, fun g => ?_⟩
  · have g := of_decide_eq_true (show decide (h > 1000000000) = true from g)
    intro _
    exact fin 0 false 1 (by unfold cutv; rw [if_neg g1, if_pos g])
  have g2 := of_decide_eq_false (show decide (h > 1000000000) = false from g)
  intro _; refine ⟨fun g => ?_, fun g => ?_⟩
  · have g := of_decide_eq_true (show decide (m < 0) = true from g)
    intro _
    exact fin 0 false 1 (by unfold cutv; rw [if_neg g1, if_neg g2, if_pos g])
  have g3 := of_decide_eq_false (show decide (m < 0) = false from g)
  intro _; refine ⟨fun g => ?_, fun g => ?_⟩
  · have g := of_decide_eq_true (show decide (m > 1000000000) = true from g)
    intro _
    exact fin 0 false 1 (by unfold cutv; rw [if_neg g1, if_neg g2, if_neg g3, if_pos g])
  have g4 := of_decide_eq_false (show decide (m > 1000000000) = false from g)
  intro _; refine ⟨fun g => ?_, fun g => ?_⟩
  · have g5 : m ≠ 0 := by
      have g : (m != 0) = true := g
      simpa using g
    intro _; refine ⟨fun g => ?_, fun g => ?_⟩
    · have g := of_decide_eq_true (show decide (m < h) = true from g)
      intro _
      exact fin m true 0 (by unfold cutv; rw [if_neg g1, if_neg g2, if_neg g3, if_neg g4, if_pos ⟨g5, g⟩])
    · have g := of_decide_eq_false (show decide (m < h) = false from g)
      intro _
      exact fin h false 0 (by unfold cutv; rw [if_neg g1, if_neg g2, if_neg g3, if_neg g4, if_neg (fun q => g q.2)])
  · have g5 : ¬ m ≠ 0 := by
      have g : (m != 0) = false := g
      simpa using g
    intro _
    exact fin h false 0 (by unfold cutv; rw [if_neg g1, if_neg g2, if_neg g3, if_neg g4, if_neg (fun q => g5 q.1)])
theorem rcut_all (h m : Int) : SemF Try.prog 36 [.int .i64 h, .int .i64 m] ⟨0, 0, []⟩ (fun v _ => v = CV h m ∧ nameless v = true) := by
  refine SemF.ret ?_
  refine enter tt_ok Try.func36 (nt := 30) (cd := body Try.f36) rfl rfl rfl rfl ?_
  have fin : ∀ (a : Int) (b : Bool) (e : Int), cutv h m = (a, b, e) → Ret 0 (fun v _ => v = CV h m ∧ nameless v = true) (.tup [.int .i64 a, .bool b, .int .i64 e]) ⟨0, 0, []⟩ := fun a b e hc => by
    refine ⟨[], .tup [.int .i64 a, .test b, .int .i64 e], ⟨0, 0, []⟩, rfl, rfl, rfl, rfl, ?_, ?_, ?_, rfl⟩
    · (repeat' first | exact trivial | exact rfl | refine And.intro ?_ ?_)
    · (repeat' first | exact trivial | exact rfl | refine And.intro ?_ ?_)
    · unfold CV; rw [hc]
  intro _; refine ⟨fun g => ?_, fun g => ?_⟩
  · have g := of_decide_eq_true (show decide (h < 0) = true from g)
    intro _
    exact fin 0 false 1 (by unfold cutv; rw [if_pos g])
  have g1 := of_decide_eq_false (show decide (h < 0) = false from g)
  intro _; refine ⟨fun g => ?_, fun g => ?_⟩
  · have g := of_decide_eq_true (show decide (h > 1000000000) = true from g)
    intro _
    exact fin 0 false 1 (by unfold cutv; rw [if_neg g1, if_pos g])
  have g2 := of_decide_eq_false (show decide (h > 1000000000) = false from g)
  intro _; refine ⟨fun g => ?_, fun g => ?_⟩
  · have g := of_decide_eq_true (show decide (m < 0) = true from g)
    intro _
    exact fin 0 false 1 (by unfold cutv; rw [if_neg g1, if_neg g2, if_pos g])
  have g3 := of_decide_eq_false (show decide (m < 0) = false from g)
  intro _; refine ⟨fun g => ?_, fun g => ?_⟩
  · have g := of_decide_eq_true (show decide (m > 1000000000) = true from g)
    intro _
    exact fin 0 false 1 (by unfold cutv; rw [if_neg g1, if_neg g2, if_neg g3, if_pos g])
  have g4 := of_decide_eq_false (show decide (m > 1000000000) = false from g)
  intro _; refine ⟨fun g => ?_, fun g => ?_⟩
  · have g5 : m ≠ 0 := by
      have g := of_decide_eq_true (show decide (m > 0) = true from g)
      omega
    intro _; refine ⟨fun g => ?_, fun g => ?_⟩
    · have g := of_decide_eq_true (show decide (m < h) = true from g)
      intro _
      exact fin m true 0 (by unfold cutv; rw [if_neg g1, if_neg g2, if_neg g3, if_neg g4, if_pos ⟨g5, g⟩])
    · have g := of_decide_eq_false (show decide (m < h) = false from g)
      intro _
      exact fin h false 0 (by unfold cutv; rw [if_neg g1, if_neg g2, if_neg g3, if_neg g4, if_neg (fun q => g q.2)])
  · have g5 : ¬ m ≠ 0 := by
      have g := of_decide_eq_false (show decide (m > 0) = false from g)
      omega
    intro _
    exact fin h false 0 (by unfold cutv; rw [if_neg g1, if_neg g2, if_neg g3, if_neg g4, if_neg (fun q => g5 q.1)])
def Z3 : List D := [.n 0, .n 0, .n 0]
theorem law9 (f : Int) (l : Rows) (h m : Int) (long : Bool) (hl : List.length l ≤ 9223372036854775807) : SemF Try.prog 9 [.int .i64 f, .slc 0 3 0 l.length, .int .i64 h, .int .i64 m, .test long] ⟨1, 1, [(0, .arr [.int .i64, .int .i64, .int .i64] .ro (.recs l))]⟩ (fun v _ => IsTrue v) := by
  refine enter tt_ok Try.func9 (nt := 108) (cd := body Try.f9) rfl rfl rfl rfl ?_
  intro _
  refine head_ok rfl Try.func29 (cd := body Try.f29) rfl ?_
  intro _; refine ⟨fun g => ?_, fun g => ?_⟩
  · intro _
    show true = true
    rfl
  have h60 := of_decide_eq_false (show decide ((l.length : Int) > 60) = false from g)
  intro _; refine ⟨fun _ => ?_, fun _ => ?_⟩
  · intro _
    refine ⟨⟨by omega, by omega, by simp⟩, ?_⟩
    have hLL : List.length (List.replicate (4001 : Int).toNat [D.n 0, D.n 0, D.n 0]) = (4001 : Int).toNat := by simp
    have hL2 : (4001 : Int).toNat = 4001 := rfl
    intro _
    refine call_new [(0, some 1)] (place_all f (List.replicate (4001 : Int).toNat [D.n 0, D.n 0, D.n 0]) (by omega)) rfl rfl rfl rfl ?_ ?_ ?_
    · (repeat' first | exact trivial | exact rfl | refine And.intro ?_ ?_)
    · (repeat' first | exact trivial | exact rfl | refine And.intro ?_ ?_)
    intro v h' hv
    obtain ⟨rfl, rfl⟩ := hv
    refine ⟨[(2, some 1)], 3, [(2, .arr [.int .i64] .grow (.ints (pr f (List.replicate (4001 : Int).toNat [D.n 0, D.n 0, D.n 0])).1))], .tup [.grw 2 (pr f (List.replicate (4001 : Int).toNat [D.n 0, D.n 0, D.n 0])).1.length, .int .i64 (pr f (List.replicate (4001 : Int).toNat [D.n 0, D.n 0, D.n 0])).2.1, .int .i64 (pr f (List.replicate (4001 : Int).toNat [D.n 0, D.n 0, D.n 0])).2.2], rfl, rfl, rfl, rfl, rfl, ?_, ?_, ?_⟩
    · (repeat' first | exact trivial | exact rfl | refine And.intro ?_ ?_)
    · (repeat' first | exact trivial | exact rfl | refine And.intro ?_ ?_)
    intro _
    refine call_new [(0, some 1)] (rplace_all f (List.replicate (4001 : Int).toNat [D.n 0, D.n 0, D.n 0]) (by omega)) rfl rfl rfl rfl ?_ ?_ ?_
    · (repeat' first | exact trivial | exact rfl | refine And.intro ?_ ?_)
    · (repeat' first | exact trivial | exact rfl | refine And.intro ?_ ?_)
    intro v h' hv
    obtain ⟨rfl, rfl⟩ := hv
    refine ⟨[(3, some 1)], 4, [(3, .arr [.int .i64] .grow (.ints (pr f (List.replicate (4001 : Int).toNat [D.n 0, D.n 0, D.n 0])).1))], .tup [.grw 3 (pr f (List.replicate (4001 : Int).toNat [D.n 0, D.n 0, D.n 0])).1.length, .int .i64 (pr f (List.replicate (4001 : Int).toNat [D.n 0, D.n 0, D.n 0])).2.1, .int .i64 (pr f (List.replicate (4001 : Int).toNat [D.n 0, D.n 0, D.n 0])).2.2], rfl, rfl, rfl, rfl, rfl, ?_, ?_, ?_⟩
    · (repeat' first | exact trivial | exact rfl | refine And.intro ?_ ?_)
    · (repeat' first | exact trivial | exact rfl | refine And.intro ?_ ?_)
    have hpl := pr_len f (List.replicate (4001 : Int).toNat [D.n 0, D.n 0, D.n 0])
    intro _
    refine call_pure [(0, some 2), (1, some 3)] (same_all (pr f (List.replicate (4001 : Int).toNat [D.n 0, D.n 0, D.n 0])).1 (pr f (List.replicate (4001 : Int).toNat [D.n 0, D.n 0, D.n 0])).1 (by omega) (by omega)) rfl rfl rfl ?_ ?_ ?_
    · (repeat' first | exact trivial | exact rfl | refine And.intro ?_ ?_)
    · (repeat' first | exact trivial | exact rfl | refine And.intro ?_ ?_)
    intro v hv _
    rw [decide_eq_true rfl] at hv
    subst hv
    intro _; refine ⟨fun _ => ?_, fun g => absurd g (by simp)⟩
    intro _
    refine call_pure [(0, some 1)] (height_all (List.replicate (4001 : Int).toNat [D.n 0, D.n 0, D.n 0]) (by omega)) rfl rfl rfl ?_ ?_ ?_
    · (repeat' first | exact trivial | exact rfl | refine And.intro ?_ ?_)
    · (repeat' first | exact trivial | exact rfl | refine And.intro ?_ ?_)
    intro v hv _
    subst hv
    intro _
    refine call_pure [(0, some 1)] (rheight_all (List.replicate (4001 : Int).toNat [D.n 0, D.n 0, D.n 0]) (by omega)) rfl rfl rfl ?_ ?_ ?_
    · (repeat' first | exact trivial | exact rfl | refine And.intro ?_ ?_)
    · (repeat' first | exact trivial | exact rfl | refine And.intro ?_ ?_)
    intro v hv _
    subst hv
    intro _; refine ⟨fun _ => ?_, fun g => absurd g (by simp)⟩
    intro _; refine ⟨fun _ => ?_, fun g => absurd g (by simp)⟩
    intro _
    refine call_pure [] (cut_all h m) rfl rfl rfl ?_ ?_ ?_
    · (repeat' first | exact trivial | exact rfl | refine And.intro ?_ ?_)
    · (repeat' first | exact trivial | exact rfl | refine And.intro ?_ ?_)
    intro v hv _
    subst hv
    intro _
    refine call_pure [] (rcut_all h m) rfl rfl rfl ?_ ?_ ?_
    · (repeat' first | exact trivial | exact rfl | refine And.intro ?_ ?_)
    · (repeat' first | exact trivial | exact rfl | refine And.intro ?_ ?_)
    intro v hv _
    subst hv
    intro _; refine ⟨fun _ => ?_, fun g => absurd g (by simp)⟩
    intro _; refine ⟨fun _ => ?_, fun g => absurd g (by simp)⟩
    intro _; refine ⟨fun _ => ?_, fun g => absurd g (by simp)⟩
    intro _
    show ((cutv h m).2.2 == (cutv h m).2.2) = true
    simp
  · intro _
    refine call_new [(0, some 0)] (place_all f l (by omega)) rfl rfl rfl rfl ?_ ?_ ?_
    · (repeat' first | exact trivial | exact rfl | refine And.intro ?_ ?_)
    · (repeat' first | exact trivial | exact rfl | refine And.intro ?_ ?_)
    intro v h' hv
    obtain ⟨rfl, rfl⟩ := hv
    refine ⟨[(1, some 1)], 2, [(1, .arr [.int .i64] .grow (.ints (pr f l).1))], .tup [.grw 1 (pr f l).1.length, .int .i64 (pr f l).2.1, .int .i64 (pr f l).2.2], rfl, rfl, rfl, rfl, rfl, ?_, ?_, ?_⟩
    · (repeat' first | exact trivial | exact rfl | refine And.intro ?_ ?_)
    · (repeat' first | exact trivial | exact rfl | refine And.intro ?_ ?_)
    intro _
    refine call_new [(0, some 0)] (rplace_all f l (by omega)) rfl rfl rfl rfl ?_ ?_ ?_
    · (repeat' first | exact trivial | exact rfl | refine And.intro ?_ ?_)
    · (repeat' first | exact trivial | exact rfl | refine And.intro ?_ ?_)
    intro v h' hv
    obtain ⟨rfl, rfl⟩ := hv
    refine ⟨[(2, some 1)], 3, [(2, .arr [.int .i64] .grow (.ints (pr f l).1))], .tup [.grw 2 (pr f l).1.length, .int .i64 (pr f l).2.1, .int .i64 (pr f l).2.2], rfl, rfl, rfl, rfl, rfl, ?_, ?_, ?_⟩
    · (repeat' first | exact trivial | exact rfl | refine And.intro ?_ ?_)
    · (repeat' first | exact trivial | exact rfl | refine And.intro ?_ ?_)
    have hpl := pr_len f l
    intro _
    refine call_pure [(0, some 1), (1, some 2)] (same_all (pr f l).1 (pr f l).1 (by omega) (by omega)) rfl rfl rfl ?_ ?_ ?_
    · (repeat' first | exact trivial | exact rfl | refine And.intro ?_ ?_)
    · (repeat' first | exact trivial | exact rfl | refine And.intro ?_ ?_)
    intro v hv _
    rw [decide_eq_true rfl] at hv
    subst hv
    intro _; refine ⟨fun _ => ?_, fun g => absurd g (by simp)⟩
    intro _
    refine call_pure [(0, some 0)] (height_all l (by omega)) rfl rfl rfl ?_ ?_ ?_
    · (repeat' first | exact trivial | exact rfl | refine And.intro ?_ ?_)
    · (repeat' first | exact trivial | exact rfl | refine And.intro ?_ ?_)
    intro v hv _
    subst hv
    intro _
    refine call_pure [(0, some 0)] (rheight_all l (by omega)) rfl rfl rfl ?_ ?_ ?_
    · (repeat' first | exact trivial | exact rfl | refine And.intro ?_ ?_)
    · (repeat' first | exact trivial | exact rfl | refine And.intro ?_ ?_)
    intro v hv _
    subst hv
    intro _; refine ⟨fun _ => ?_, fun g => absurd g (by simp)⟩
    intro _; refine ⟨fun _ => ?_, fun g => absurd g (by simp)⟩
    intro _
    refine call_pure [] (cut_all h m) rfl rfl rfl ?_ ?_ ?_
    · (repeat' first | exact trivial | exact rfl | refine And.intro ?_ ?_)
    · (repeat' first | exact trivial | exact rfl | refine And.intro ?_ ?_)
    intro v hv _
    subst hv
    intro _
    refine call_pure [] (rcut_all h m) rfl rfl rfl ?_ ?_ ?_
    · (repeat' first | exact trivial | exact rfl | refine And.intro ?_ ?_)
    · (repeat' first | exact trivial | exact rfl | refine And.intro ?_ ?_)
    intro v hv _
    subst hv
    intro _; refine ⟨fun _ => ?_, fun g => absurd g (by simp)⟩
    intro _; refine ⟨fun _ => ?_, fun g => absurd g (by simp)⟩
    intro _; refine ⟨fun _ => ?_, fun g => absurd g (by simp)⟩
    intro _
    show ((cutv h m).2.2 == (cutv h m).2.2) = true
    simp

theorem walk (w : World) (f : Int) (w_f : (Lit.int .i64 f).wf = true) (v_l : Value) (s_l : Src) (l : List (List Go.Vm2.D)) (cap_l : Nat) (hk_l : s_l.ks = [.int .i64, .int .i64, .int .i64]) (ha_l : s_l.ac = .recs l) (hs_l : s_l.lies w) (hn_l : s_l.at_ = none → l.length = 0) (hc_l : l.length ≤ cap_l) (hv_l : v_l = s_l.val cap_l) (hm_l : l.length ≤ maxLen) (w_l : ∀ n ∈ l, rowWf [.int .i64, .int .i64, .int .i64] n) (h : Int) (w_h : (Lit.int .i64 h).wf = true) (m : Int) (w_m : (Lit.int .i64 m).wf = true) (long : Bool) :
    Calls Try.prog 9 #[.int .i64 f, v_l, .int .i64 h, .int .i64 m, .bool long] w fun e w' => e = .returned (.bool true) ∧ Below w.heap.size w w' := by
  obtain ⟨at_l, ks_l, ac_l⟩ := s_l
  simp only [] at hk_l ha_l
  subst hk_l ha_l
  have h_l : l.length ≤ 9223372036854775807 := by unfold maxLen at hm_l; omega
  have b_f := w_f
  simp [Lit.wf, IntKind.min, IntKind.max, IntKind.signed, IntKind.bits] at b_f
  have b_h := w_h
  simp [Lit.wf, IntKind.min, IntKind.max, IntKind.signed, IntKind.bits] at b_h
  have b_m := w_m
  simp [Lit.wf, IntKind.min, IntKind.max, IntKind.signed, IntKind.bits] at b_m
  exact top_run (by kernel_rfl) (by kernel_rfl) (T := [29]) (fun f hf w => by
      rcases List.mem_cons.1 hf with e | e
      · subst e; exact head w
      · exact (List.not_mem_nil e).elim) (l := [⟨at_l, [.int .i64, .int .i64, .int .i64], .recs l⟩]) (args := [.int .i64 f, .slc 0 3 0 l.length, .int .i64 h, .int .i64 m, .test long]) («as» := [.int .i64 f, Src.av 0 cap_l ⟨at_l, [.int .i64, .int .i64, .int .i64], .recs l⟩, .int .i64 h, .int .i64 m, .bool long]) (cargs := [.int .i64 f, v_l, .int .i64 h, .int .i64 m, .bool long]) w
    (fun s h => by
      rcases List.mem_cons.1 h with e | h
      · subst e; exact hs_l
      · exact (List.not_mem_nil h).elim)
    (Cvs.cons mk_int (Cvs.cons (src_cv (s := ⟨at_l, [.int .i64, .int .i64, .int .i64], .recs l⟩) rfl 3 hc_l hn_l) (Cvs.cons mk_int (Cvs.cons mk_int (Cvs.cons mk_test Cvs.nil)))))
    (by simp only [Go.Vm.convs, Go.Vm.conv]; rw [src_conv (j := 0) (s := ⟨at_l, [.int .i64, .int .i64, .int .i64], .recs l⟩) rfl, hv_l])
    (law9 f l h m long h_l)

set_option maxRecDepth 100000 in
theorem lifted (os : Os) (started : os.Started) (H : Type) (enc : TypeId × Value → H) :
    ReturnsInHanded {} Try.checked os 9 .any (Rows.stackMatchesReferenceSpec.pre6 enc Try.prog Try.f9 Rows.stackMatchesReferenceRow.domain false) (Rows.stackMatchesReferenceSpec.post enc Try.prog Try.f9 false true false false) := by
  refine returnsInHanded_of_change (C := Try.checked) own started (by kernel_rfl) Try.func9
    (ChangeSpec.witness6 (enc := enc) (C := Try.checked) false ⟨#[], #[.int .i64 0, .slice none 0 0, .int .i64 0, .int .i64 0, .bool false], []⟩ 8 (by kernel_rfl) (by kernel_rfl) (by kernel_rfl) (by kernel_rfl)) ?_
  intro W base args ds gs before hval0 hW hcnd _
  have hval : ∀ (j : Nat) t v, Try.f9.params[j]? = some t → args[j]? = some v → Value.okWide Try.prog W .any base t v := hval0
  have hW' := hW
  obtain ⟨p, q, hA0, hV, rfl, hfz, hnd⟩ := hW
  have hA : DataW.TrodAll enc Try.prog W 0 (fun _ => true) true Try.f9.params.toList args.toList ds p := hA0
  rw [Try.params9] at hA hval
  obtain ⟨v0, vs0, d0, ds0, p0, q0, hargs, rfl, rfl, h0, r0⟩ := trodAll_cons hA
  obtain ⟨v1, vs1, d1, ds1, p1, q1, rfl, rfl, rfl, h1, r1⟩ := trodAll_cons r0
  obtain ⟨v2, vs2, d2, ds2, p2, q2, rfl, rfl, rfl, h2, r2⟩ := trodAll_cons r1
  obtain ⟨v3, vs3, d3, ds3, p3, q3, rfl, rfl, rfl, h3, r3⟩ := trodAll_cons r2
  obtain ⟨v4, vs4, d4, ds4, p4, q4, rfl, rfl, rfl, h4, r4⟩ := trodAll_cons r3
  obtain ⟨rfl, rfl, rfl⟩ := trodAll_nil r4
  obtain rfl : args = #[v0, v1, v2, v3, v4] := by cases args; simp_all
  obtain ⟨rfl, rfl⟩ := trodVars_none hV
  obtain ⟨f, rfl, rfl, rfl, w_f⟩ := open_int Try.underlying3 (hval 0 3 v0 rfl rfl) h0
  obtain ⟨s_l, l, cap_l, hk_l, ha_l, hs_l, hn_l, hc_l, hv_l, hm_l, w_l⟩ := Go.Vm2.open_recs (ks := [.int .i64, .int .i64, .int .i64]) Try.underlying52 Try.underlying66 (by kernel_rfl) (by simp) (by kernel_rfl) (hval 1 52 v1 rfl rfl) h1
  have hlt1 : ∀ x ∈ p1, x.block < W.heap.size := fun x hx => by simpa using hW'.lt x (by simp [hx])
  obtain ⟨h, rfl, rfl, rfl, w_h⟩ := open_int Try.underlying3 (hval 2 3 v2 rfl rfl) h2
  obtain ⟨m, rfl, rfl, rfl, w_m⟩ := open_int Try.underlying3 (hval 3 3 v3 rfl rfl) h3
  obtain ⟨long, rfl, rfl, rfl⟩ := open_bool Try.underlying4 (hval 4 4 v4 rfl rfl) h4
  clear hA0 hval0
  refine (walk W f w_f v1 s_l l cap_l hk_l ha_l hs_l hn_l hc_l hv_l hm_l w_l h w_h m w_m long).mono fun e W' ⟨he, hg⟩ => ?_
  subst he
  exact ⟨_, rfl, _, _, _, [], _, [], hW', trodAll_cons_mk (shut_bool Try.underlying4 _) trodAll_mk0, (trodAll_cons_mk (shut_int Try.underlying3 w_f) (trodAll_cons_mk (Below.trod laidOut (by kernel_rfl) (of_decide_eq_true (by kernel_rfl)) h1 hg hlt1) (trodAll_cons_mk (shut_int Try.underlying3 w_h) (trodAll_cons_mk (shut_int Try.underlying3 w_m) (trodAll_cons_mk (shut_bool Try.underlying4 long) trodAll_mk0))))), rfl, hg.frame _, fun h => by cases h⟩

theorem over : Rows.stackMatchesReferenceRow.holds Try.pinned (OpenSpec.ofChange Rows.stackMatchesReferenceSpec) :=
  OpenClaim.holds_of_wide 9 Try.f9 rfl rfl rfl rfl rfl rfl rfl ⟨rfl, rfl, rfl, rfl, rfl⟩ rfl rfl rfl rfl rfl (by kernel_rfl) Try.func9 (by kernel_rfl)
    (of_decide_eq_true (by kernel_rfl)) (by unfold Func.isWrapper; first | (rw [if_pos (by decide +kernel)]; kernel_rfl) | (rw [if_neg (by decide +kernel)]; exact ⟨rfl, rfl⟩))
    (fun os started H enc _ => lifted os started H enc)

/-- the statement -/
theorem proved : Rows.StackMatchesReferenceSaid :=
  over
#print axioms proved
end Go.Proofs.Ytkphagflnhnfkab.stackMatchesReference
