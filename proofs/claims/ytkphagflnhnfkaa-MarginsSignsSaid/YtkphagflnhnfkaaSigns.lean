/-
  MarginsSigns (layer 18): for every list of integers the law returns true, and its argument reads as before. No conditions.
-/
import Derived.Test.YtkphagflnhnfkaaRows
import Derived.Test.YtkphagflnhnfkaaVwOpen
import Derived.Test.YtkphagflnhnfkaaVwRules4
import Derived.Test.YtkphagflnhnfkaaVmSym
import Derived.WalkKit
import Derived.ProofKit
import Derived.OpenShut
import Derived.Carry
namespace Go.Proofs.Ytkphagflnhnfkaa.marginsSigns
open Go.ChangeShapes Go.WideShapes Go.ChangeAt Go.RowKit
open Go.Vm (Facts Val Sound)
open Go.Vm2
set_option linter.unusedVariables false
set_option linter.unusedSectionVars false

theorem own : ownKnob Try.prog.godebug = none := by kernel_rfl
theorem laidOut : laidOutB Try.prog = true := by kernel_rfl
def ts : List Nat := [22, 3, 25, 73, 71, 23, 39, 4]
def tt : Go.Vm2.TT := [
  (22, ⟨(.slice 3 1 8 [.int .i64]), false, 1, .nils, true⟩),
  (3, ⟨(.int .i64), false, 1, .int .i64 (0), true⟩),
  (25, ⟨(.int .i64), false, 1, .int .i64 (0), true⟩),
  (73, ⟨(.struct [⟨0, 2, true⟩]), true, 2, .agg [.int .i64 (0), .int .i64 (0)], true⟩),
  (71, ⟨(.struct [⟨0, 1, false⟩, ⟨1, 1, false⟩]), true, 2, .agg [.int .i64 (0), .int .i64 (0)], true⟩),
  (23, ⟨(.slice 39 3 24 [.int .i64, .int .i64, .int .i64]), false, 1, .nils, true⟩),
  (39, ⟨(.struct [⟨0, 1, false⟩, ⟨1, 1, false⟩, ⟨2, 1, false⟩]), true, 3, .agg [.int .i64 (0), .int .i64 (0), .int .i64 (0)], true⟩),
  (4, ⟨.bool, false, 1, .bool false, true⟩)]
theorem tt_mk : mkTT Try.prog ts = some tt := by kernel_rfl
theorem head (w : World) : Calls Try.prog 15 #[] w fun e w' => e = .returned (.bool true) ∧ Below w.heap.size w w' :=
  Go.Vm.head_run (by kernel_rfl) (by kernel_rfl) (n := 1000000) (by kernel_rfl) w
instance facts : Facts := ⟨[], [15], false⟩
instance val : Val := ⟨fun _ => 0⟩
instance sound : Sound := ⟨fun f hf => (List.not_mem_nil hf).elim⟩
theorem tt_ok : TTok Try.prog tt := ttok_mk tt_mk
def body (f : Func) : Code := match f.body with | some c => c | none => .skip
set_option maxRecDepth 100000
def hi (l : List Int) (k : Nat) : Int := (l.take k).foldl max 0
def lo (l : List Int) (k : Nat) : Int := (l.take k).foldl min 0
theorem hi_succ (l : List Int) (k : Nat) (h : k < l.length) : hi l (k + 1) = max (hi l k) (l.getD k 0) := by
  unfold hi; rw [List.take_succ_eq_append_getElem h, List.foldl_append]; simp [h]
theorem lo_succ (l : List Int) (k : Nat) (h : k < l.length) : lo l (k + 1) = min (lo l k) (l.getD k 0) := by
  unfold lo; rw [List.take_succ_eq_append_getElem h, List.foldl_append]; simp [h]
def I (l : List Int) (k : Nat) : Frm × H :=
  (⟨18, [(3, .ptr 1 0), (6, .slc 0 1 0 l.length), (7, .int .i64 l.length), (8, .int .i64 k)], []⟩,
   ⟨2, 1, [(0, .arr [.int .i64] .rd (.ints l)), (1, .cells [.int .i64 (hi l k), .int .i64 (lo l k)])]⟩)
theorem wrap_nat (k : Nat) (h : k < 9223372036854775807) : IntKind.i64.wrap ((k : Int) + 1) = ((k + 1 : Nat) : Int) := by
  rw [IntKind.wrap_i64]; omega
theorem join_ok (l : List Int) (hl : l.length ≤ 5000) : SemF Try.prog 34 [.slc 0 1 0 l.length] ⟨1, 1, [(0, .arr [.int .i64] .rd (.ints l))]⟩
    (fun v _ => v = .int .i64 (IntKind.i64.wrap (hi l l.length + lo l l.length)) ∧ nameless v = true) := by
  refine enter tt_ok Try.func34 (nt := 18) (cd := body Try.f34) rfl rfl rfl rfl ?_
  intro _
  refine loop tt_ok (fun k : Fin (l.length + 1) => I l k) (fun k => l.length - k) ⟨0, by omega⟩ ?_ ?_
  · refine ⟨[(0, some 0), (1, some 1)], rfl, rfl, rfl, rfl, rfl, rfl, ?_, ?_⟩
    · exact And.intro rfl (And.intro (And.intro rfl (And.intro rfl rfl)) (And.intro rfl (And.intro rfl trivial)))
    · exact And.intro rfl (And.intro (And.intro rfl (And.intro rfl trivial)) trivial)
  · intro ⟨k, hk⟩
    intro _; refine ⟨fun g => ?_, fun g => ?_⟩
    · intro _; refine ⟨by simp at g; simp; omega, ?_⟩
      intro _; refine ⟨by simp at g; simp [AC.len]; omega, ?_⟩
      intro _
      refine enter tt_ok Try.func42 (nt := 22) (cd := body Try.f42) rfl rfl rfl rfl ?_
      intro _
      refine ⟨⟨k + 1, by simp at g; omega⟩, by simp at g; simp; omega, [(0, some 0), (1, some 1)], rfl, rfl, rfl, rfl, rfl, rfl, ?_, ?_⟩
      · exact And.intro rfl (And.intro (And.intro rfl (And.intro rfl rfl)) (And.intro rfl (And.intro (show ((k + 1 : Nat) : Int) = IntKind.i64.wrap ((k : Int) + 1) from (wrap_nat k (by omega)).symm) trivial)))
      · have hkl : k < l.length := by simp at g; omega
        have e0 : 0 + ((k : Int)).toNat = k := by omega
        have e1 := hi_succ l k hkl
        have e2 := lo_succ l k hkl
        exact And.intro rfl (And.intro (And.intro (show hi l (k + 1) = max (hi l k) (l.getD (0 + ((k : Int)).toNat) 0) by rw [e0]; exact e1) (And.intro (show lo l (k + 1) = min (lo l k) (l.getD (0 + ((k : Int)).toNat) 0) by rw [e0]; exact e2) trivial)) trivial)
    · have hkl : k = l.length := by simp at g; omega
      subst hkl
      intro _
      refine enter tt_ok Try.func43 (nt := 12) (cd := body Try.f43) rfl rfl rfl rfl ?_
      intro _
      refine ⟨by kernel_rfl, ?_⟩
      intro _
      intro _
      exact ⟨rfl, rfl⟩

def mx (l : List Int) : Int := l.foldl max 0
def mn (l : List Int) : Int := l.foldl min 0
theorem hi_all (l : List Int) : hi l l.length = mx l := by unfold hi mx; rw [List.take_length]
theorem lo_all (l : List Int) : lo l l.length = mn l := by unfold lo mn; rw [List.take_length]
def Mg (n : Int) : Prop := -1000000000 ≤ n ∧ n ≤ 1000000000
theorem foldl_max (l : List Int) : ∀ a, (∀ n ∈ l, n ≤ 1000000000) → a ≤ 1000000000 → a ≤ l.foldl max a ∧ l.foldl max a ≤ 1000000000 := by
  induction l with
  | nil => intro a _ h; exact ⟨Int.le_refl _, h⟩
  | cons x l ih =>
    intro a h1 h2
    have hx := h1 x (by simp)
    have := ih (max a x) (fun n hn => h1 n (by simp [hn])) (by omega)
    simp only [List.foldl_cons]
    omega
theorem foldl_min (l : List Int) : ∀ a, (∀ n ∈ l, -1000000000 ≤ n) → -1000000000 ≤ a → l.foldl min a ≤ a ∧ -1000000000 ≤ l.foldl min a := by
  induction l with
  | nil => intro a _ h; exact ⟨Int.le_refl _, h⟩
  | cons x l ih =>
    intro a h1 h2
    have hx := h1 x (by simp)
    have := ih (min a x) (fun n hn => h1 n (by simp [hn])) (by omega)
    simp only [List.foldl_cons]
    omega
theorem mx_bd (l : List Int) (h : ∀ n ∈ l, Mg n) : 0 ≤ mx l ∧ mx l ≤ 1000000000 := foldl_max l 0 (fun n hn => (h n hn).2) (by omega)
theorem mn_bd (l : List Int) (h : ∀ n ∈ l, Mg n) : mn l ≤ 0 ∧ -1000000000 ≤ mn l := foldl_min l 0 (fun n hn => (h n hn).1) (by omega)
theorem margin_ok (n : Int) (h : H) (K : V → H → Prop) (h1 : n < -1000000000 → K (.bool false) h) (h2 : -1000000000 ≤ n → K (.test (decide (n ≤ 1000000000))) h) : SemF Try.prog 33 [.int .i64 n] h K := by
  refine enter tt_ok Try.func33 (nt := 9) (cd := body Try.f33) rfl rfl rfl rfl ?_
  intro _; refine ⟨fun g => ?_, fun g => ?_⟩
  · intro _; exact h2 (by simp at g; omega)
  · intro _; exact h1 (by simp at g; omega)
theorem rmargin_ok (n : Int) (h : H) (K : V → H → Prop) (h1 : n < -1000000000 → K (.bool false) h) (h2 : -1000000000 ≤ n → K (.test (decide (n ≤ 1000000000))) h) : SemF Try.prog 22 [.int .i64 n] h K := by
  refine enter tt_ok Try.func22 (nt := 9) (cd := body Try.f22) rfl rfl rfl rfl ?_
  intro _; refine ⟨fun g => ?_, fun g => ?_⟩
  · intro _; exact h2 (by simp at g; omega)
  · intro _; exact h1 (by simp at g; omega)
def IJ (l : List Int) (k : Nat) : Frm × H :=
  (⟨21, [(0, .slc 0 1 0 l.length), (9, .slc 0 1 0 l.length), (10, .int .i64 l.length), (11, .int .i64 k)], []⟩,
   ⟨1, 1, [(0, .arr [.int .i64] .rd (.ints l))]⟩)
/-- Join, of margins -/
theorem Join_ok (l : List Int) (hl : l.length ≤ 4000) (hm : ∀ n ∈ l, Mg n) : SemF Try.prog 16 [.slc 0 1 0 l.length] ⟨1, 1, [(0, .arr [.int .i64] .rd (.ints l))]⟩
    (fun v _ => v = .tup [.int .i64 (mx l + mn l), .int .i64 0] ∧ nameless v = true) := by
  refine enter tt_ok Try.func16 (nt := 21) (cd := body Try.f16) rfl rfl rfl rfl ?_
  intro _; refine ⟨fun g => by simp at g; omega, fun g => ?_⟩
  intro _
  refine loop tt_ok (fun k : Fin (l.length + 1) => IJ l k) (fun k => l.length - k) ⟨0, by omega⟩ ?_ ?_
  · refine ⟨[(0, some 0)], rfl, rfl, rfl, rfl, rfl, rfl, ?_, ?_⟩
    · exact And.intro (And.intro rfl (And.intro rfl rfl)) (And.intro (And.intro rfl (And.intro rfl rfl)) (And.intro rfl (And.intro rfl trivial)))
    · exact And.intro rfl trivial
  · intro ⟨k, hk⟩
    intro _; refine ⟨fun g => ?_, fun g => ?_⟩
    · have hkl : k < l.length := by simp at g; omega
      have e0 : 0 + ((k : Int)).toNat = k := by omega
      have hmk : Mg (l.getD k 0) := hm _ (by rw [List.getD_eq_getElem?_getD]; simp [hkl])
      intro _; refine ⟨by simp; omega, ?_⟩
      intro _; refine ⟨by simp [AC.len]; omega, ?_⟩
      intro _
      refine margin_ok _ _ _ (fun h1 => ?_) (fun h1 => ?_)
      · have h1 : l.getD (0 + ((k : Int)).toNat) 0 < -1000000000 := h1
        rw [e0] at h1; have := hmk.1; omega
      · intro _; refine ⟨fun g2 => ?_, fun g2 => ?_⟩
        · exfalso
          have g2 : (!decide (l.getD (0 + ((k : Int)).toNat) 0 ≤ 1000000000)) = true := g2
          rw [e0, Bool.not_eq_true'] at g2; exact of_decide_eq_false g2 hmk.2
        · refine ⟨⟨k + 1, by omega⟩, by simp; omega, [(0, some 0)], rfl, rfl, rfl, rfl, rfl, rfl, ?_, ?_⟩
          · exact And.intro (And.intro rfl (And.intro rfl rfl)) (And.intro (And.intro rfl (And.intro rfl rfl)) (And.intro rfl (And.intro (show ((k + 1 : Nat) : Int) = IntKind.i64.wrap ((k : Int) + 1) from (wrap_nat k (by omega)).symm) trivial)))
          · exact And.intro rfl trivial
    · intro _
      refine call_pure [(0, some 0)] (join_ok l (by omega)) rfl rfl rfl ?_ ?_ ?_
      · exact And.intro rfl trivial
      · exact And.intro (And.intro rfl (And.intro rfl rfl)) trivial
      · intro v hv _
        subst hv
        intro _
        refine ⟨?_, rfl⟩
        have b1 := mx_bd l hm
        have b2 := mn_bd l hm
        show V.tup [.int .i64 (IntKind.i64.wrap (hi l l.length + lo l l.length)), .int .i64 0] = _
        rw [hi_all, lo_all]
        have : IntKind.i64.wrap (mx l + mn l) = mx l + mn l := by rw [IntKind.wrap_i64]; omega
        rw [this]

/-! right -/
def Rt (l : List Int) : Prop := (∀ n ∈ l, Mg n) ∧ l.length ≤ 1000
def IR (l : List Int) (k : Nat) : Frm × H :=
  (⟨18, [(0, .slc 0 1 0 l.length), (5, .slc 0 1 0 l.length), (6, .int .i64 l.length), (7, .int .i64 k)], []⟩,
   ⟨1, 1, [(0, .arr [.int .i64] .rd (.ints l))]⟩)
theorem all_of (l : List Int) (h : ∀ i, i < l.length → Mg (l.getD i 0)) : ∀ n ∈ l, Mg n := by
  intro n hn
  obtain ⟨i, hi, rfl⟩ := List.getElem_of_mem hn
  have := h i hi
  rw [List.getD_eq_getElem?_getD, List.getElem?_eq_getElem hi] at this
  exact this
theorem of_all (l : List Int) (h : ∀ n ∈ l, Mg n) (i : Nat) (hi : i < l.length) : Mg (l.getD i 0) := by
  rw [List.getD_eq_getElem?_getD, List.getElem?_eq_getElem hi]
  exact h _ (List.getElem_mem hi)
theorem right_ok (l : List Int) (hl : l.length ≤ 9223372036854775807) : SemF Try.prog 21 [.slc 0 1 0 l.length] ⟨1, 1, [(0, .arr [.int .i64] .rd (.ints l))]⟩
    (fun v _ => ((v = .bool false ∧ ¬ ∀ n ∈ l, Mg n) ∨ (v = .test (decide ((l.length : Int) ≤ 1000)) ∧ ∀ n ∈ l, Mg n)) ∧ nameless v = true) := by
  refine enter tt_ok Try.func21 (nt := 18) (cd := body Try.f21) rfl rfl rfl rfl ?_
  intro _
  refine loop tt_ok (fun k : { k : Nat // k ≤ l.length ∧ ∀ i, i < k → Mg (l.getD i 0) } => IR l k) (fun k => l.length - k) ⟨0, by omega, fun i h => by omega⟩ ?_ ?_
  · refine ⟨[(0, some 0)], rfl, rfl, rfl, rfl, rfl, rfl, ?_, ?_⟩
    · exact And.intro (And.intro rfl (And.intro rfl rfl)) (And.intro (And.intro rfl (And.intro rfl rfl)) (And.intro rfl (And.intro rfl trivial)))
    · exact And.intro rfl trivial
  · intro ⟨k, hk, hmk⟩
    intro _; refine ⟨fun g => ?_, fun g => ?_⟩
    · have hkl : k < l.length := by simp at g; omega
      have e0 : 0 + ((k : Int)).toNat = k := by omega
      intro _; refine ⟨by simp; omega, ?_⟩
      intro _; refine ⟨by simp [AC.len]; omega, ?_⟩
      intro _
      refine rmargin_ok _ _ _ (fun h1 => ?_) (fun h1 => ?_)
      · intro _
        refine ⟨.inl ⟨rfl, fun hall => ?_⟩, rfl⟩
        have h1 : l.getD (0 + ((k : Int)).toNat) 0 < -1000000000 := h1
        rw [e0] at h1; have := (of_all l hall k hkl).1; omega
      · have h1 : -1000000000 ≤ l.getD (0 + ((k : Int)).toNat) 0 := h1
        rw [e0] at h1
        intro _; refine ⟨fun g2 => ?_, fun g2 => ?_⟩
        · have g2 : (!decide (l.getD (0 + ((k : Int)).toNat) 0 ≤ 1000000000)) = true := g2
          rw [e0, Bool.not_eq_true'] at g2
          intro _
          exact ⟨.inl ⟨rfl, fun hall => of_decide_eq_false g2 (of_all l hall k hkl).2⟩, rfl⟩
        · have g2 : (!decide (l.getD (0 + ((k : Int)).toNat) 0 ≤ 1000000000)) = false := g2
          rw [e0, Bool.not_eq_false'] at g2
          refine ⟨⟨k + 1, by omega, fun i hi => ?_⟩, by simp; omega, [(0, some 0)], rfl, rfl, rfl, rfl, rfl, rfl, ?_, ?_⟩
          · by_cases hik : i = k
            · subst hik; exact ⟨h1, of_decide_eq_true g2⟩
            · exact hmk i (by omega)
          · exact And.intro (And.intro rfl (And.intro rfl rfl)) (And.intro (And.intro rfl (And.intro rfl rfl)) (And.intro rfl (And.intro (show ((k + 1 : Nat) : Int) = IntKind.i64.wrap ((k : Int) + 1) from (wrap_nat k (by omega)).symm) trivial)))
          · exact And.intro rfl trivial
    · have hkl : k = l.length := by simp at g; omega
      subst hkl
      intro _
      exact ⟨.inr ⟨rfl, all_of l hmk⟩, rfl⟩

/-! MarginsSigns -/
def up (l : List Int) : List Int := l.filter (fun n => decide (0 ≤ n))
def dn (l : List Int) : List Int := l.filter (fun n => !decide (0 ≤ n))
def IS (l : List Int) (k : Nat) : Frm × H :=
  (⟨89, [(0, .slc 0 1 0 l.length), (3, .bool true), (4, .grw 1 (up (l.take k)).length), (5, .grw 2 (dn (l.take k)).length), (6, .int .i64 (hi l k)), (7, .int .i64 (lo l k)), (21, .slc 0 1 0 l.length), (22, .int .i64 l.length), (23, .int .i64 k)], []⟩,
   ⟨3, 1, [(0, .arr [.int .i64] .ro (.ints l)), (1, .arr [.int .i64] .grow (.ints (up (l.take k)))), (2, .arr [.int .i64] .grow (.ints (dn (l.take k))))]⟩)
theorem up_succ (l : List Int) (k : Nat) (h : k < l.length) (hn : 0 ≤ l.getD k 0) : up (l.take (k + 1)) = up (l.take k) ++ [l.getD k 0] ∧ dn (l.take (k + 1)) = dn (l.take k) := by
  rw [List.getD_eq_getElem?_getD, List.getElem?_eq_getElem h] at hn ⊢
  simp only [Option.getD_some] at hn ⊢
  unfold up dn
  rw [List.take_succ_eq_append_getElem h, List.filter_append, List.filter_append]
  rw [show List.filter (fun n => decide (0 ≤ n)) [l[k]] = [l[k]] from by simp [hn], show List.filter (fun n => !decide (0 ≤ n)) [l[k]] = [] from by simp [hn]]
  exact ⟨rfl, List.append_nil _⟩
theorem dn_succ (l : List Int) (k : Nat) (h : k < l.length) (hn : l.getD k 0 < 0) : up (l.take (k + 1)) = up (l.take k) ∧ dn (l.take (k + 1)) = dn (l.take k) ++ [l.getD k 0] := by
  rw [List.getD_eq_getElem?_getD, List.getElem?_eq_getElem h] at hn ⊢
  simp only [Option.getD_some] at hn ⊢
  have hn' : ¬ 0 ≤ l[k] := by omega
  unfold up dn
  rw [List.take_succ_eq_append_getElem h, List.filter_append, List.filter_append]
  rw [show List.filter (fun n => decide (0 ≤ n)) [l[k]] = [] from by simp [hn], show List.filter (fun n => !decide (0 ≤ n)) [l[k]] = [l[k]] from by simp [hn]]
  exact ⟨List.append_nil _, rfl⟩
theorem up_max (l : List Int) : ∀ a, 0 ≤ a → (up l).foldl max a = l.foldl max a := by
  induction l with
  | nil => intro a _; rfl
  | cons x l ih =>
    intro a h
    unfold up at ih ⊢
    rw [List.filter_cons]
    by_cases hx : 0 ≤ x
    · rw [if_pos (decide_eq_true hx)]; simp only [List.foldl_cons]; exact ih _ (by omega)
    · rw [if_neg (by simpa using hx)]; simp only [List.foldl_cons]; rw [show max a x = a from by omega]; exact ih _ h
theorem up_min (l : List Int) : ∀ a, a ≤ 0 → (up l).foldl min a = a := by
  induction l with
  | nil => intro a _; rfl
  | cons x l ih =>
    intro a h
    unfold up at ih ⊢
    rw [List.filter_cons]
    by_cases hx : 0 ≤ x
    · rw [if_pos (decide_eq_true hx)]; simp only [List.foldl_cons]; rw [show min a x = a from by omega]; exact ih _ h
    · rw [if_neg (by simpa using hx)]; exact ih _ h
theorem dn_max (l : List Int) : ∀ a, 0 ≤ a → (dn l).foldl max a = a := by
  induction l with
  | nil => intro a _; rfl
  | cons x l ih =>
    intro a h
    unfold dn at ih ⊢
    rw [List.filter_cons]
    by_cases hx : 0 ≤ x
    · rw [if_neg (by simpa using hx)]; exact ih _ h
    · rw [if_pos (by simpa using hx)]; simp only [List.foldl_cons]; rw [show max a x = a from by omega]; exact ih _ h
theorem dn_min (l : List Int) : ∀ a, a ≤ 0 → (dn l).foldl min a = l.foldl min a := by
  induction l with
  | nil => intro a _; rfl
  | cons x l ih =>
    intro a h
    unfold dn at ih ⊢
    rw [List.filter_cons]
    by_cases hx : 0 ≤ x
    · rw [if_neg (by simpa using hx)]; simp only [List.foldl_cons]; rw [show min a x = a from by omega]; exact ih _ h
    · rw [if_pos (by simpa using hx)]; simp only [List.foldl_cons]; exact ih _ (by omega)
theorem part_len (q : Int → Bool) (l : List Int) (h : l.length ≤ 1000) : ((l.take l.length).filter q).length ≤ 4000 := by
  rw [List.take_length]; exact Nat.le_trans (List.length_filter_le _ _) (by omega)
theorem part_mg (q : Int → Bool) (l : List Int) (h : ∀ n ∈ l, Mg n) : ∀ n ∈ (l.take l.length).filter q, Mg n := by
  rw [List.take_length]; exact fun n hn => h n (List.mem_filter.1 hn).1
theorem signs (l : List Int) (hl : l.length ≤ 9223372036854775807) : SemF Try.prog 5 [.slc 0 1 0 l.length] ⟨1, 1, [(0, .arr [.int .i64] .ro (.ints l))]⟩ (fun v _ => IsTrue v) := by
  refine enter tt_ok Try.func5 (nt := 89) (cd := body Try.f5) rfl rfl rfl rfl ?_
  intro _
  refine head_ok rfl Try.func15 (cd := body Try.f15) rfl ?_
  intro _
  refine call_pure [(0, some 0)] (right_ok l hl) rfl rfl rfl ?_ ?_ ?_
  · exact And.intro rfl trivial
  · exact And.intro (And.intro rfl (And.intro rfl rfl)) trivial
  · intro v hv _
    have key : (∀ n ∈ l, Mg n) → l.length ≤ 1000 → True := fun _ _ => trivial
    rcases hv with ⟨rfl, hv⟩ | ⟨rfl, hv⟩
    · intro _
      show true = true
      rfl
    · have hv0 := hv
      intro _; refine ⟨fun g => ?_, fun g => ?_⟩
      · intro _
        show true = true
        rfl
      · have hl2 : l.length ≤ 1000 := by
          have g : (!decide ((l.length : Int) ≤ 1000)) = false := g
          rw [Bool.not_eq_false'] at g
          have := of_decide_eq_true g
          omega
        intro _
        refine loop tt_ok (fun k : Fin (l.length + 1) => IS l k) (fun k => l.length - k) ⟨0, by omega⟩ ?_ ?_
        · refine ⟨[(0, some 0), (1, none), (2, none)], rfl, rfl, rfl, rfl, rfl, rfl, ?_, ?_⟩
          · exact And.intro (And.intro rfl (And.intro rfl rfl)) (And.intro rfl (And.intro rfl (And.intro rfl (And.intro rfl (And.intro rfl (And.intro (And.intro rfl (And.intro rfl rfl)) (And.intro rfl (And.intro rfl trivial))))))))
          · exact And.intro rfl (And.intro rfl (And.intro rfl trivial))
        · intro ⟨k, hk⟩
          intro _; refine ⟨fun g => ?_, fun g => ?_⟩
          · have hkl : k < l.length := by simp at g; omega
            have e0 : 0 + ((k : Int)).toNat = k := by omega
            intro _; refine ⟨by simp; omega, ?_⟩
            intro _; refine ⟨by simp [AC.len]; omega, ?_⟩
            intro _
            refine ⟨fun g2 => ?_, fun g2 => ?_⟩
            · have g2 : decide (0 ≤ l.getD (0 + ((k : Int)).toNat) 0) = true := g2
              rw [e0] at g2
              have g2 := of_decide_eq_true g2
              obtain ⟨eu, ed⟩ := up_succ l k hkl g2
              intro _
              refine ⟨rfl, ?_⟩
              intro _
              refine ⟨fun g3 => by simp at g3, fun _ => ?_⟩
              have bl : (up (l.take k)).length ≤ l.length := Nat.le_trans (List.length_filter_le _ _) (by rw [List.length_take]; omega)
              refine ⟨⟨rfl, by simp; omega, by simp; omega⟩, ?_⟩
              refine ⟨⟨k + 1, by omega⟩, by simp; omega, [(0, some 0), (1, some 4), (2, some 2)], rfl, rfl, rfl, rfl, rfl, rfl, ?_, ?_⟩
              · exact And.intro (And.intro rfl (And.intro rfl rfl)) (And.intro rfl (And.intro (show (up (l.take (k + 1))).length = (up (l.take k)).length + 1 by rw [eu]; simp) (And.intro (show (dn (l.take (k + 1))).length = (dn (l.take k)).length by rw [ed]) (And.intro (show hi l (k + 1) = max (hi l k) (l.getD (0 + ((k : Int)).toNat) 0) by rw [e0]; exact hi_succ l k hkl) (And.intro (show lo l (k + 1) = lo l k by rw [lo_succ l k hkl]; have := (foldl_min (l.take k) 0 (fun n hn => (hv0 n (List.mem_of_mem_take hn)).1) (by omega)).1; unfold lo; omega) (And.intro (And.intro rfl (And.intro rfl rfl)) (And.intro rfl (And.intro (show ((k + 1 : Nat) : Int) = IntKind.i64.wrap ((k : Int) + 1) from (wrap_nat k (by omega)).symm) trivial))))))))
              · exact And.intro rfl (And.intro (show up (l.take (k + 1)) = up (l.take k) ++ [l.getD (0 + ((k : Int)).toNat) 0] by rw [e0]; exact eu) (And.intro (show dn (l.take (k + 1)) = dn (l.take k) from ed) trivial))
            · have g2 : decide (0 ≤ l.getD (0 + ((k : Int)).toNat) 0) = false := g2
              rw [e0] at g2
              have g2 := of_decide_eq_false g2
              obtain ⟨eu, ed⟩ := dn_succ l k hkl (by omega)
              have bl : (dn (l.take k)).length ≤ l.length := Nat.le_trans (List.length_filter_le _ _) (by rw [List.length_take]; omega)
              intro _
              refine ⟨rfl, ?_⟩
              intro _
              refine ⟨fun g3 => by simp at g3, fun _ => ?_⟩
              refine ⟨⟨rfl, by simp; omega, by simp; omega⟩, ?_⟩
              refine ⟨⟨k + 1, by omega⟩, by simp; omega, [(0, some 0), (1, some 1), (2, some 4)], rfl, rfl, rfl, rfl, rfl, rfl, ?_, ?_⟩
              · exact And.intro (And.intro rfl (And.intro rfl rfl)) (And.intro rfl (And.intro (show (up (l.take (k + 1))).length = (up (l.take k)).length by rw [eu]) (And.intro (show (dn (l.take (k + 1))).length = (dn (l.take k)).length + 1 by rw [ed]; simp) (And.intro (show hi l (k + 1) = hi l k by rw [hi_succ l k hkl]; have := (foldl_max (l.take k) 0 (fun n hn => (hv0 n (List.mem_of_mem_take hn)).2) (by omega)).1; unfold hi; omega) (And.intro (show lo l (k + 1) = min (lo l k) (l.getD (0 + ((k : Int)).toNat) 0) by rw [e0]; exact lo_succ l k hkl) (And.intro (And.intro rfl (And.intro rfl rfl)) (And.intro rfl (And.intro (show ((k + 1 : Nat) : Int) = IntKind.i64.wrap ((k : Int) + 1) from (wrap_nat k (by omega)).symm) trivial))))))))
              · exact And.intro rfl (And.intro (show up (l.take (k + 1)) = up (l.take k) from eu) (And.intro (show dn (l.take (k + 1)) = dn (l.take k) ++ [l.getD (0 + ((k : Int)).toNat) 0] by rw [e0]; exact ed) trivial))
          · have hkl : k = l.length := by simp at g; omega
            subst hkl
            intro _
            have eu : l.take l.length = l := List.take_length
            refine call_pure [(0, some 1)] (Join_ok (up (l.take l.length)) (part_len _ l hl2) (part_mg _ l hv0)) rfl rfl rfl ?_ ?_ ?_
            · exact And.intro rfl trivial
            · exact And.intro (And.intro rfl rfl) trivial
            · intro v hv _
              subst hv
              intro _
              refine call_pure [(0, some 2)] (Join_ok (dn (l.take l.length)) (part_len _ l hl2) (part_mg _ l hv0)) rfl rfl rfl ?_ ?_ ?_
              · exact And.intro rfl trivial
              · exact And.intro (And.intro rfl rfl) trivial
              · intro v hv _
                subst hv
                intro _
                refine call_pure [(0, some 0)] (Join_ok l (by omega) hv0) rfl rfl rfl ?_ ?_ ?_
                · exact And.intro rfl trivial
                · exact And.intro (And.intro rfl (And.intro rfl rfl)) trivial
                · intro v hv _
                  subst hv
                  intro _
                  have f1 : mx (up l) + mn (up l) = hi l l.length := by rw [hi_all]; unfold mx mn; rw [up_max l 0 (Int.le_refl _), up_min l 0 (Int.le_refl _)]; omega
                  have f2 : mx (dn l) + mn (dn l) = lo l l.length := by rw [lo_all]; unfold mx mn; rw [dn_max l 0 (Int.le_refl _), dn_min l 0 (Int.le_refl _)]; omega
                  have f3 : IntKind.i64.wrap (mx (up l) + mn (up l) + (mx (dn l) + mn (dn l))) = mx l + mn l := by
                    have b1 := mx_bd l hv0
                    have b2 := mn_bd l hv0
                    rw [f1, f2, hi_all, lo_all, IntKind.wrap_i64]; omega
                  refine ⟨fun g => ?_, fun g => by simp at g⟩
                  intro _; refine ⟨fun g => ?_, fun g => by simp at g⟩
                  intro _; refine ⟨fun g => ?_, fun g => by simp at g⟩
                  intro _; refine ⟨fun g => ?_, fun g => by simp [f1] at g⟩
                  intro _; refine ⟨fun g => ?_, fun g => by simp [f2] at g⟩
                  intro _; show _ = true; simp [f3]

theorem walk (v : Value) (s : Src) (l : List Int) (cap : Nat) (hk : s.ks = [.int .i64]) (ha : s.ac = .ints l) (w : World) (hs : s.lies w) (hn : s.at_ = none → l.length = 0) (hc : l.length ≤ cap) (hv : v = s.val cap) (hm : l.length ≤ maxLen) :
    Calls Try.prog 5 #[v] w fun e w' => e = .returned (.bool true) ∧ Below w.heap.size w w' := by
  obtain ⟨at_, ks, ac⟩ := s
  simp only [] at hk ha
  subst hk ha
  have hl : l.length ≤ 9223372036854775807 := by unfold maxLen at hm; omega
  exact top_run (by kernel_rfl) (by kernel_rfl) (T := [15]) (fun f hf w => by
      rcases List.mem_cons.1 hf with e | e
      · subst e; exact head w
      · exact (List.not_mem_nil e).elim) (l := [⟨at_, [.int .i64], .ints l⟩]) (args := [.slc 0 1 0 l.length]) («as» := [Src.av 0 cap ⟨at_, [.int .i64], .ints l⟩]) (cargs := [v]) w
    (fun s h => by
      rcases List.mem_cons.1 h with e | e
      · subst e; exact hs
      · exact (List.not_mem_nil e).elim)
    (Cvs.cons (src_cv (s := ⟨at_, [.int .i64], .ints l⟩) rfl 1 hc hn) Cvs.nil)
    (by simp only [Go.Vm.convs]; rw [src_conv (j := 0) (s := ⟨at_, [.int .i64], .ints l⟩) rfl, hv])
    (signs l hl)

set_option maxRecDepth 100000 in
theorem lifted (os : Os) (started : os.Started) (H : Type) (enc : TypeId × Value → H) :
    ReturnsInHanded {} Try.checked os 5 .any (Rows.marginsSignsSpec.pre6 enc Try.prog Try.f5 Rows.marginsSignsRow.domain false) (Rows.marginsSignsSpec.post enc Try.prog Try.f5 false true false false) := by
  refine returnsInHanded_of_change (C := Try.checked) own started (by kernel_rfl) Try.func5
    (ChangeSpec.witness6 (enc := enc) (C := Try.checked) false ⟨#[], #[.slice none 0 0], []⟩ 8 (by kernel_rfl) (by kernel_rfl) (by kernel_rfl) (by kernel_rfl)) ?_
  intro W base args ds gs before hval0 hW hcnd _
  have hval : ∀ (j : Nat) t v, Try.f5.params[j]? = some t → args[j]? = some v → Value.okWide Try.prog W .any base t v := hval0
  have hW' := hW
  obtain ⟨p, q, hA0, hV, rfl, hfz, hnd⟩ := hW
  have hA : DataW.TrodAll enc Try.prog W 0 (fun _ => true) true Try.f5.params.toList args.toList ds p := hA0
  rw [Try.params5] at hA hval
  obtain ⟨v0, vs0, d0, ds0, p0, q0, hargs, rfl, rfl, h0, r0⟩ := trodAll_cons hA
  obtain ⟨rfl, rfl, rfl⟩ := trodAll_nil r0
  obtain rfl : args = #[v0] := by cases args; simp_all
  obtain ⟨rfl, rfl⟩ := trodVars_none hV
  obtain ⟨s, l, cap, hk, ha, hs, hn, hc, hv, hm, hw⟩ := Go.Vm2.open_list Try.underlying22 Try.underlying3 (by kernel_rfl) (hval 0 22 v0 rfl rfl) h0
  have hlt0 : ∀ x ∈ p0, x.block < W.heap.size := fun x hx => by simpa using hW'.lt x (by simp [hx])
  clear hA0 hval0
  refine (walk v0 s l cap hk ha W hs hn hc hv hm).mono fun e W' ⟨he, hg⟩ => ?_
  subst he
  exact ⟨_, rfl, _, _, _, [], _, [], hW', trodAll_cons_mk (shut_bool Try.underlying4 _) trodAll_mk0, trodAll_cons_mk (Below.trod laidOut (by kernel_rfl) (of_decide_eq_true (by kernel_rfl)) h0 hg hlt0) trodAll_mk0, rfl, hg.frame _, fun h => by cases h⟩

theorem over : Rows.marginsSignsRow.holds Try.pinned (OpenSpec.ofChange Rows.marginsSignsSpec) :=
  OpenClaim.holds_of_wide 5 Try.f5 rfl rfl rfl rfl rfl rfl rfl ⟨rfl, rfl, rfl, rfl, rfl⟩ rfl rfl rfl rfl rfl (by kernel_rfl) Try.func5 (by kernel_rfl)
    (of_decide_eq_true (by kernel_rfl)) (by unfold Func.isWrapper; first | (rw [if_pos (by decide +kernel)]; kernel_rfl) | (rw [if_neg (by decide +kernel)]; exact ⟨rfl, rfl⟩))
    (fun os started H enc _ => lifted os started H enc)

/-- the statement -/
theorem proved : Rows.MarginsSignsSaid :=
  over
#print axioms proved
end Go.Proofs.Ytkphagflnhnfkaa.marginsSigns
