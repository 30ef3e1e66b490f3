/-
  MarginsGrow: whatever the arguments, the law returns true, and its arguments read as before. No conditions.
-/
import Derived.Test.YtkphagflnhnfkaaRows
import Derived.Test.YtkphagflnhnfkaaVwOpen
import Derived.Test.YtkphagflnhnfkaaVwRules4
import Derived.Test.YtkphagflnhnfkaaVmSym
import Derived.WalkKit
import Derived.ProofKit
import Derived.OpenShut
import Derived.Carry
namespace Go.Proofs.Ytkphagflnhnfkaa.marginsGrow
open Go.ChangeShapes Go.WideShapes Go.ChangeAt Go.RowKit
open Go.Vm (Facts Val Sound)
open Go.Vm2
set_option linter.unusedVariables false
set_option linter.unusedSectionVars false

theorem own : ownKnob Try.prog.godebug = none := by kernel_rfl
theorem laidOut : laidOutB Try.prog = true := by kernel_rfl
def ts : List Nat := [22, 3, 25, 73, 71, 23, 39, 4, 5, 35]
def tt : Go.Vm2.TT := [
  (22, ⟨(.slice 3 1 8 [.int .i64]), false, 1, .nils, true⟩),
  (3, ⟨(.int .i64), false, 1, .int .i64 (0), true⟩),
  (25, ⟨(.int .i64), false, 1, .int .i64 (0), true⟩),
  (73, ⟨(.struct [⟨0, 2, true⟩]), true, 2, .agg [.int .i64 (0), .int .i64 (0)], true⟩),
  (71, ⟨(.struct [⟨0, 1, false⟩, ⟨1, 1, false⟩]), true, 2, .agg [.int .i64 (0), .int .i64 (0)], true⟩),
  (23, ⟨(.slice 39 3 24 [.int .i64, .int .i64, .int .i64]), false, 1, .nils, true⟩),
  (39, ⟨(.struct [⟨0, 1, false⟩, ⟨1, 1, false⟩, ⟨2, 1, false⟩]), true, 3, .agg [.int .i64 (0), .int .i64 (0), .int .i64 (0)], true⟩),
  (4, ⟨.bool, false, 1, .bool false, true⟩),
  (5, ⟨(.int .u8), false, 1, .int .u8 (0), true⟩),
  (35, ⟨(.int .u16), false, 1, .int .u16 (0), true⟩)]
theorem tt_mk : mkTT Try.prog ts = some tt := by kernel_rfl
theorem head (w : World) : Calls Try.prog 15 #[] w fun e w' => e = .returned (.bool true) ∧ Below w.heap.size w w' :=
  Go.Vm.head_run (by kernel_rfl) (by kernel_rfl) (n := 1000000) (by kernel_rfl) w
instance facts : Facts := ⟨[], [15], false⟩
instance val : Val := ⟨fun _ => 0⟩
instance sound : Sound := ⟨fun f hf => (List.not_mem_nil hf).elim⟩
theorem tt_ok : TTok Try.prog tt := ttok_mk tt_mk
def body (f : Func) : Code := match f.body with | some c => c | none => .skip
set_option maxRecDepth 100000
def hi (l : List Int) (k : Nat) : Int := (l.take k).foldl max 0
def lo (l : List Int) (k : Nat) : Int := (l.take k).foldl min 0
theorem hi_succ (l : List Int) (k : Nat) (h : k < l.length) : hi l (k + 1) = max (hi l k) (l.getD k 0) := by
  unfold hi; rw [List.take_succ_eq_append_getElem h, List.foldl_append]; simp [h]
theorem lo_succ (l : List Int) (k : Nat) (h : k < l.length) : lo l (k + 1) = min (lo l k) (l.getD k 0) := by
  unfold lo; rw [List.take_succ_eq_append_getElem h, List.foldl_append]; simp [h]
def I (l : List Int) (k : Nat) : Frm × H :=
  (⟨18, [(3, .ptr 1 0), (6, .slc 0 1 0 l.length), (7, .int .i64 l.length), (8, .int .i64 k)], []⟩,
   ⟨2, 1, [(0, .arr [.int .i64] .rd (.ints l)), (1, .cells [.int .i64 (hi l k), .int .i64 (lo l k)])]⟩)
theorem wrap_nat (k : Nat) (h : k < 9223372036854775807) : IntKind.i64.wrap ((k : Int) + 1) = ((k + 1 : Nat) : Int) := by
  rw [IntKind.wrap_i64]; omega
theorem join_ok (l : List Int) (hl : l.length ≤ 5000) : SemF Try.prog 34 [.slc 0 1 0 l.length] ⟨1, 1, [(0, .arr [.int .i64] .rd (.ints l))]⟩
    (fun v _ => v = .int .i64 (IntKind.i64.wrap (hi l l.length + lo l l.length)) ∧ nameless v = true) := by
  refine enter tt_ok Try.func34 (nt := 18) (cd := body Try.f34) rfl rfl rfl rfl ?_
  intro _
  refine loop tt_ok (fun k : Fin (l.length + 1) => I l k) (fun k => l.length - k) ⟨0, by omega⟩ ?_ ?_
  · refine ⟨[(0, some 0), (1, some 1)], rfl, rfl, rfl, rfl, rfl, rfl, ?_, ?_⟩
    · exact And.intro rfl (And.intro (And.intro rfl (And.intro rfl rfl)) (And.intro rfl (And.intro rfl trivial)))
    · exact And.intro rfl (And.intro (And.intro rfl (And.intro rfl trivial)) trivial)
  · intro ⟨k, hk⟩
    intro _; refine ⟨fun g => ?_, fun g => ?_⟩
    · intro _; refine ⟨by simp at g; simp; omega, ?_⟩
      intro _; refine ⟨by simp at g; simp [AC.len]; omega, ?_⟩
      intro _
      refine enter tt_ok Try.func42 (nt := 22) (cd := body Try.f42) rfl rfl rfl rfl ?_
      intro _
      refine ⟨⟨k + 1, by simp at g; omega⟩, by simp at g; simp; omega, [(0, some 0), (1, some 1)], rfl, rfl, rfl, rfl, rfl, rfl, ?_, ?_⟩
      · exact And.intro rfl (And.intro (And.intro rfl (And.intro rfl rfl)) (And.intro rfl (And.intro (show ((k + 1 : Nat) : Int) = IntKind.i64.wrap ((k : Int) + 1) from (wrap_nat k (by omega)).symm) trivial)))
      · have hkl : k < l.length := by simp at g; omega
        have e0 : 0 + ((k : Int)).toNat = k := by omega
        have e1 := hi_succ l k hkl
        have e2 := lo_succ l k hkl
        exact And.intro rfl (And.intro (And.intro (show hi l (k + 1) = max (hi l k) (l.getD (0 + ((k : Int)).toNat) 0) by rw [e0]; exact e1) (And.intro (show lo l (k + 1) = min (lo l k) (l.getD (0 + ((k : Int)).toNat) 0) by rw [e0]; exact e2) trivial)) trivial)
    · have hkl : k = l.length := by simp at g; omega
      subst hkl
      intro _
      refine enter tt_ok Try.func43 (nt := 12) (cd := body Try.f43) rfl rfl rfl rfl ?_
      intro _
      refine ⟨by kernel_rfl, ?_⟩
      intro _
      intro _
      exact ⟨rfl, rfl⟩

def mx (l : List Int) : Int := l.foldl max 0
def mn (l : List Int) : Int := l.foldl min 0
theorem hi_all (l : List Int) : hi l l.length = mx l := by unfold hi mx; rw [List.take_length]
theorem lo_all (l : List Int) : lo l l.length = mn l := by unfold lo mn; rw [List.take_length]
def Mg (n : Int) : Prop := -1000000000 ≤ n ∧ n ≤ 1000000000
theorem foldl_max (l : List Int) : ∀ a, (∀ n ∈ l, n ≤ 1000000000) → a ≤ 1000000000 → a ≤ l.foldl max a ∧ l.foldl max a ≤ 1000000000 := by
  induction l with
  | nil => intro a _ h; exact ⟨Int.le_refl _, h⟩
  | cons x l ih =>
    intro a h1 h2
    have hx := h1 x (by simp)
    have := ih (max a x) (fun n hn => h1 n (by simp [hn])) (by omega)
    simp only [List.foldl_cons]
    omega
theorem foldl_min (l : List Int) : ∀ a, (∀ n ∈ l, -1000000000 ≤ n) → -1000000000 ≤ a → l.foldl min a ≤ a ∧ -1000000000 ≤ l.foldl min a := by
  induction l with
  | nil => intro a _ h; exact ⟨Int.le_refl _, h⟩
  | cons x l ih =>
    intro a h1 h2
    have hx := h1 x (by simp)
    have := ih (min a x) (fun n hn => h1 n (by simp [hn])) (by omega)
    simp only [List.foldl_cons]
    omega
theorem mx_bd (l : List Int) (h : ∀ n ∈ l, Mg n) : 0 ≤ mx l ∧ mx l ≤ 1000000000 := foldl_max l 0 (fun n hn => (h n hn).2) (by omega)
theorem mn_bd (l : List Int) (h : ∀ n ∈ l, Mg n) : mn l ≤ 0 ∧ -1000000000 ≤ mn l := foldl_min l 0 (fun n hn => (h n hn).1) (by omega)
theorem margin_ok (n : Int) (h : H) (K : V → H → Prop) (h1 : n < -1000000000 → K (.bool false) h) (h2 : -1000000000 ≤ n → K (.test (decide (n ≤ 1000000000))) h) : SemF Try.prog 33 [.int .i64 n] h K := by
  refine enter tt_ok Try.func33 (nt := 9) (cd := body Try.f33) rfl rfl rfl rfl ?_
  intro _; refine ⟨fun g => ?_, fun g => ?_⟩
  · intro _; exact h2 (by simp at g; omega)
  · intro _; exact h1 (by simp at g; omega)
theorem rmargin_ok (n : Int) (h : H) (K : V → H → Prop) (h1 : n < -1000000000 → K (.bool false) h) (h2 : -1000000000 ≤ n → K (.test (decide (n ≤ 1000000000))) h) : SemF Try.prog 22 [.int .i64 n] h K := by
  refine enter tt_ok Try.func22 (nt := 9) (cd := body Try.f22) rfl rfl rfl rfl ?_
  intro _; refine ⟨fun g => ?_, fun g => ?_⟩
  · intro _; exact h2 (by simp at g; omega)
  · intro _; exact h1 (by simp at g; omega)
def IJ (l : List Int) (k : Nat) : Frm × H :=
  (⟨21, [(0, .slc 0 1 0 l.length), (9, .slc 0 1 0 l.length), (10, .int .i64 l.length), (11, .int .i64 k)], []⟩,
   ⟨1, 1, [(0, .arr [.int .i64] .rd (.ints l))]⟩)
/-- Join, of margins -/
theorem Join_ok (l : List Int) (hl : l.length ≤ 4000) (hm : ∀ n ∈ l, Mg n) : SemF Try.prog 16 [.slc 0 1 0 l.length] ⟨1, 1, [(0, .arr [.int .i64] .rd (.ints l))]⟩
    (fun v _ => v = .tup [.int .i64 (mx l + mn l), .int .i64 0] ∧ nameless v = true) := by
  refine enter tt_ok Try.func16 (nt := 21) (cd := body Try.f16) rfl rfl rfl rfl ?_
  intro _; refine ⟨fun g => by simp at g; omega, fun g => ?_⟩
  intro _
  refine loop tt_ok (fun k : Fin (l.length + 1) => IJ l k) (fun k => l.length - k) ⟨0, by omega⟩ ?_ ?_
  · refine ⟨[(0, some 0)], rfl, rfl, rfl, rfl, rfl, rfl, ?_, ?_⟩
    · exact And.intro (And.intro rfl (And.intro rfl rfl)) (And.intro (And.intro rfl (And.intro rfl rfl)) (And.intro rfl (And.intro rfl trivial)))
    · exact And.intro rfl trivial
  · intro ⟨k, hk⟩
    intro _; refine ⟨fun g => ?_, fun g => ?_⟩
    · have hkl : k < l.length := by simp at g; omega
      have e0 : 0 + ((k : Int)).toNat = k := by omega
      have hmk : Mg (l.getD k 0) := hm _ (by rw [List.getD_eq_getElem?_getD]; simp [hkl])
      intro _; refine ⟨by simp; omega, ?_⟩
      intro _; refine ⟨by simp [AC.len]; omega, ?_⟩
      intro _
      refine margin_ok _ _ _ (fun h1 => ?_) (fun h1 => ?_)
      · have h1 : l.getD (0 + ((k : Int)).toNat) 0 < -1000000000 := h1
        rw [e0] at h1; have := hmk.1; omega
      · intro _; refine ⟨fun g2 => ?_, fun g2 => ?_⟩
        · exfalso
          have g2 : (!decide (l.getD (0 + ((k : Int)).toNat) 0 ≤ 1000000000)) = true := g2
          rw [e0, Bool.not_eq_true'] at g2; exact of_decide_eq_false g2 hmk.2
        · refine ⟨⟨k + 1, by omega⟩, by simp; omega, [(0, some 0)], rfl, rfl, rfl, rfl, rfl, rfl, ?_, ?_⟩
          · exact And.intro (And.intro rfl (And.intro rfl rfl)) (And.intro (And.intro rfl (And.intro rfl rfl)) (And.intro rfl (And.intro (show ((k + 1 : Nat) : Int) = IntKind.i64.wrap ((k : Int) + 1) from (wrap_nat k (by omega)).symm) trivial)))
          · exact And.intro rfl trivial
    · intro _
      refine call_pure [(0, some 0)] (join_ok l (by omega)) rfl rfl rfl ?_ ?_ ?_
      · exact And.intro rfl trivial
      · exact And.intro (And.intro rfl (And.intro rfl rfl)) trivial
      · intro v hv _
        subst hv
        intro _
        refine ⟨?_, rfl⟩
        have b1 := mx_bd l hm
        have b2 := mn_bd l hm
        show V.tup [.int .i64 (IntKind.i64.wrap (hi l l.length + lo l l.length)), .int .i64 0] = _
        rw [hi_all, lo_all]
        have : IntKind.i64.wrap (mx l + mn l) = mx l + mn l := by rw [IntKind.wrap_i64]; omega
        rw [this]

/-! right -/
def Rt (l : List Int) : Prop := (∀ n ∈ l, Mg n) ∧ l.length ≤ 1000
def IR (l : List Int) (k : Nat) : Frm × H :=
  (⟨18, [(0, .slc 0 1 0 l.length), (5, .slc 0 1 0 l.length), (6, .int .i64 l.length), (7, .int .i64 k)], []⟩,
   ⟨1, 1, [(0, .arr [.int .i64] .rd (.ints l))]⟩)
theorem all_of (l : List Int) (h : ∀ i, i < l.length → Mg (l.getD i 0)) : ∀ n ∈ l, Mg n := by
  intro n hn
  obtain ⟨i, hi, rfl⟩ := List.getElem_of_mem hn
  have := h i hi
  rw [List.getD_eq_getElem?_getD, List.getElem?_eq_getElem hi] at this
  exact this
theorem of_all (l : List Int) (h : ∀ n ∈ l, Mg n) (i : Nat) (hi : i < l.length) : Mg (l.getD i 0) := by
  rw [List.getD_eq_getElem?_getD, List.getElem?_eq_getElem hi]
  exact h _ (List.getElem_mem hi)
theorem right_ok (l : List Int) (hl : l.length ≤ 9223372036854775807) : SemF Try.prog 21 [.slc 0 1 0 l.length] ⟨1, 1, [(0, .arr [.int .i64] .rd (.ints l))]⟩
    (fun v _ => ((v = .bool false ∧ ¬ ∀ n ∈ l, Mg n) ∨ (v = .test (decide ((l.length : Int) ≤ 1000)) ∧ ∀ n ∈ l, Mg n)) ∧ nameless v = true) := by
  refine enter tt_ok Try.func21 (nt := 18) (cd := body Try.f21) rfl rfl rfl rfl ?_
  intro _
  refine loop tt_ok (fun k : { k : Nat // k ≤ l.length ∧ ∀ i, i < k → Mg (l.getD i 0) } => IR l k) (fun k => l.length - k) ⟨0, by omega, fun i h => by omega⟩ ?_ ?_
  · refine ⟨[(0, some 0)], rfl, rfl, rfl, rfl, rfl, rfl, ?_, ?_⟩
    · exact And.intro (And.intro rfl (And.intro rfl rfl)) (And.intro (And.intro rfl (And.intro rfl rfl)) (And.intro rfl (And.intro rfl trivial)))
    · exact And.intro rfl trivial
  · intro ⟨k, hk, hmk⟩
    intro _; refine ⟨fun g => ?_, fun g => ?_⟩
    · have hkl : k < l.length := by simp at g; omega
      have e0 : 0 + ((k : Int)).toNat = k := by omega
      intro _; refine ⟨by simp; omega, ?_⟩
      intro _; refine ⟨by simp [AC.len]; omega, ?_⟩
      intro _
      refine rmargin_ok _ _ _ (fun h1 => ?_) (fun h1 => ?_)
      · intro _
        refine ⟨.inl ⟨rfl, fun hall => ?_⟩, rfl⟩
        have h1 : l.getD (0 + ((k : Int)).toNat) 0 < -1000000000 := h1
        rw [e0] at h1; have := (of_all l hall k hkl).1; omega
      · have h1 : -1000000000 ≤ l.getD (0 + ((k : Int)).toNat) 0 := h1
        rw [e0] at h1
        intro _; refine ⟨fun g2 => ?_, fun g2 => ?_⟩
        · have g2 : (!decide (l.getD (0 + ((k : Int)).toNat) 0 ≤ 1000000000)) = true := g2
          rw [e0, Bool.not_eq_true'] at g2
          intro _
          exact ⟨.inl ⟨rfl, fun hall => of_decide_eq_false g2 (of_all l hall k hkl).2⟩, rfl⟩
        · have g2 : (!decide (l.getD (0 + ((k : Int)).toNat) 0 ≤ 1000000000)) = false := g2
          rw [e0, Bool.not_eq_false'] at g2
          refine ⟨⟨k + 1, by omega, fun i hi => ?_⟩, by simp; omega, [(0, some 0)], rfl, rfl, rfl, rfl, rfl, rfl, ?_, ?_⟩
          · by_cases hik : i = k
            · subst hik; exact ⟨h1, of_decide_eq_true g2⟩
            · exact hmk i (by omega)
          · exact And.intro (And.intro rfl (And.intro rfl rfl)) (And.intro (And.intro rfl (And.intro rfl rfl)) (And.intro rfl (And.intro (show ((k + 1 : Nat) : Int) = IntKind.i64.wrap ((k : Int) + 1) from (wrap_nat k (by omega)).symm) trivial)))
          · exact And.intro rfl trivial
    · have hkl : k = l.length := by simp at g; omega
      subst hkl
      intro _
      exact ⟨.inr ⟨rfl, all_of l hmk⟩, rfl⟩


/-! MarginsOrder -/
theorem le_mx {l : List Int} {n : Int} (h : n ∈ l) : n ≤ mx l := by
  have key : ∀ (l : List Int) (a : Int), a ≤ l.foldl max a ∧ ∀ n ∈ l, n ≤ l.foldl max a := by
    intro l
    induction l with
    | nil => intro a; exact ⟨Int.le_refl _, fun n h => (List.not_mem_nil h).elim⟩
    | cons x l ih =>
      intro a
      obtain ⟨h1, h2⟩ := ih (max a x)
      refine ⟨by simp only [List.foldl_cons]; omega, fun n hn => ?_⟩
      simp only [List.foldl_cons]
      rcases List.mem_cons.1 hn with e | e
      · subst e; omega
      · exact h2 n e
  exact (key l 0).2 n h
theorem mx_le {l : List Int} {m : Int} (h0 : 0 ≤ m) (h : ∀ n ∈ l, n ≤ m) : mx l ≤ m := by
  have key : ∀ (l : List Int) (a : Int), a ≤ m → (∀ n ∈ l, n ≤ m) → l.foldl max a ≤ m := by
    intro l
    induction l with
    | nil => intro a h _; exact h
    | cons x l ih =>
      intro a h1 h2
      simp only [List.foldl_cons]
      have := h2 x (by simp)
      exact ih _ (by omega) (fun n hn => h2 n (by simp [hn]))
  exact key l 0 h0 h
theorem mn_le {l : List Int} {n : Int} (h : n ∈ l) : mn l ≤ n := by
  have key : ∀ (l : List Int) (a : Int), l.foldl min a ≤ a ∧ ∀ n ∈ l, l.foldl min a ≤ n := by
    intro l
    induction l with
    | nil => intro a; exact ⟨Int.le_refl _, fun n h => (List.not_mem_nil h).elim⟩
    | cons x l ih =>
      intro a
      obtain ⟨h1, h2⟩ := ih (min a x)
      refine ⟨by simp only [List.foldl_cons]; omega, fun n hn => ?_⟩
      simp only [List.foldl_cons]
      rcases List.mem_cons.1 hn with e | e
      · subst e; omega
      · exact h2 n e
  exact (key l 0).2 n h
theorem le_mn {l : List Int} {m : Int} (h0 : m ≤ 0) (h : ∀ n ∈ l, m ≤ n) : m ≤ mn l := by
  have key : ∀ (l : List Int) (a : Int), m ≤ a → (∀ n ∈ l, m ≤ n) → m ≤ l.foldl min a := by
    intro l
    induction l with
    | nil => intro a h _; exact h
    | cons x l ih =>
      intro a h1 h2
      simp only [List.foldl_cons]
      have := h2 x (by simp)
      exact ih _ (by omega) (fun n hn => h2 n (by simp [hn]))
  exact key l 0 h0 h
theorem same_ends {a l : List Int} (hl : ∀ n ∈ l, Mg n) (h1 : ∀ n ∈ a, n = 0 ∨ n ∈ l) (h2 : ∀ n ∈ l, n ∈ a) : mx a + mn a = mx l + mn l := by
  have b1 := mx_bd l hl
  have b2 := mn_bd l hl
  have e1 : mx a ≤ mx l := mx_le b1.1 (fun n hn => by
    rcases h1 n hn with e | e
    · omega
    · exact le_mx e)
  have e2 : mn l ≤ mn a := le_mn b2.1 (fun n hn => by
    rcases h1 n hn with e | e
    · omega
    · exact mn_le e)
  have ha : ∀ n ∈ a, Mg n := fun n hn => by
    rcases h1 n hn with e | e
    · subst e; exact ⟨by omega, by omega⟩
    · exact hl n e
  have b3 := mx_bd a ha
  have b4 := mn_bd a ha
  have e3 : mx l ≤ mx a := mx_le b3.1 (fun n hn => le_mx (h2 n hn))
  have e4 : mn a ≤ mn l := le_mn b4.1 (fun n hn => mn_le (h2 n hn))
  omega

theorem set_eq (l : List Int) (k : Nat) (hk : k < l.length) (y : Int) : l.set k y = l.take k ++ y :: l.drop (k + 1) := by
  rw [List.set_eq_take_append_cons_drop, if_pos hk]
theorem mx_set (A B : List Int) (y : Int) : mx (A ++ y :: B) = max (mx (A ++ B)) y := by
  have h0 : 0 ≤ mx (A ++ B) := by
    unfold mx
    have key : ∀ (l : List Int) (a : Int), 0 ≤ a → 0 ≤ l.foldl max a := by
      intro l
      induction l with
      | nil => intro a h; exact h
      | cons x l ih => intro a h; exact ih _ (by omega)
    exact key _ 0 (Int.le_refl _)
  have h1 : mx (A ++ y :: B) ≤ max (mx (A ++ B)) y := mx_le (by omega) (fun n hn => by
    rcases List.mem_append.1 hn with h | h
    · have := le_mx (List.mem_append.2 (.inl h) : n ∈ A ++ B); omega
    · rcases List.mem_cons.1 h with h | h
      · omega
      · have := le_mx (List.mem_append.2 (.inr h) : n ∈ A ++ B); omega)
  have h2 : y ≤ mx (A ++ y :: B) := le_mx (by simp)
  have h4 : 0 ≤ mx (A ++ y :: B) := by
    unfold mx
    have key : ∀ (l : List Int) (a : Int), 0 ≤ a → 0 ≤ l.foldl max a := by
      intro l
      induction l with
      | nil => intro a h; exact h
      | cons x l ih => intro a h; exact ih _ (by omega)
    exact key _ 0 (Int.le_refl _)
  have h3 : mx (A ++ B) ≤ mx (A ++ y :: B) := mx_le h4 (fun n hn => le_mx (by
    rcases List.mem_append.1 hn with h | h
    · exact List.mem_append.2 (.inl h)
    · exact List.mem_append.2 (.inr (List.mem_cons_of_mem _ h))))
  omega
theorem mn_set (A B : List Int) (y : Int) : mn (A ++ y :: B) = min (mn (A ++ B)) y := by
  have key : ∀ (l : List Int) (a : Int), a ≤ 0 → l.foldl min a ≤ 0 := by
    intro l
    induction l with
    | nil => intro a h; exact h
    | cons x l ih => intro a h; exact ih _ (by omega)
  have h0 : mn (A ++ B) ≤ 0 := key _ 0 (Int.le_refl _)
  have h1 : min (mn (A ++ B)) y ≤ mn (A ++ y :: B) := le_mn (by omega) (fun n hn => by
    rcases List.mem_append.1 hn with h | h
    · have := mn_le (List.mem_append.2 (.inl h) : n ∈ A ++ B); omega
    · rcases List.mem_cons.1 h with h | h
      · omega
      · have := mn_le (List.mem_append.2 (.inr h) : n ∈ A ++ B); omega)
  have h2 : mn (A ++ y :: B) ≤ y := mn_le (by simp)
  have h4 : mn (A ++ y :: B) ≤ 0 := key _ 0 (Int.le_refl _)
  have h3 : mn (A ++ y :: B) ≤ mn (A ++ B) := le_mn h4 (fun n hn => mn_le (by
    rcases List.mem_append.1 hn with h | h
    · exact List.mem_append.2 (.inl h)
    · exact List.mem_append.2 (.inr (List.mem_cons_of_mem _ h))))
  omega
theorem more (l : List Int) (k : Nat) (hk : k < l.length) (c : Int) (hc : 0 ≤ c) (hl : ∀ n ∈ l, Mg n) (hm : ∀ n ∈ l.set k (l.getD k 0 + c), Mg n) :
    mx l + mn l ≤ mx (l.set k (l.getD k 0 + c)) + mn (l.set k (l.getD k 0 + c)) ∧ mx (l.set k (l.getD k 0 + c)) + mn (l.set k (l.getD k 0 + c)) - (mx l + mn l) ≤ c := by
  have e : l = l.take k ++ l.getD k 0 :: l.drop (k + 1) := by
    rw [← set_eq l k hk, List.getD_eq_getElem?_getD, List.getElem?_eq_getElem hk]
    exact (List.set_getElem_self hk).symm
  rw [set_eq l k hk, mx_set, mn_set]
  have e1 : mx l = max (mx (l.take k ++ l.drop (k + 1))) (l.getD k 0) := by rw [← mx_set, ← e]
  have e2 : mn l = min (mn (l.take k ++ l.drop (k + 1))) (l.getD k 0) := by rw [← mn_set, ← e]
  have b : ∀ n ∈ l.take k ++ l.drop (k + 1), Mg n := fun n hn => by
    rcases List.mem_append.1 hn with h | h
    · exact hl n (List.mem_of_mem_take h)
    · exact hl n (List.mem_of_mem_drop h)
  have b1 := mx_bd _ b
  have b2 := mn_bd _ b
  rw [e1, e2]
  constructor <;> omega
theorem grow (l : List Int) (b c : Int) (hb : 0 ≤ b ∧ b ≤ 255) (hc : 0 ≤ c ∧ c ≤ 65535) (hl : l.length ≤ 9223372036854775807) : SemF Try.prog 6 [.slc 0 1 0 l.length, .int .u8 b, .int .u16 c] ⟨1, 1, [(0, .arr [.int .i64] .ro (.ints l))]⟩ (fun v _ => IsTrue v) := by
  refine enter tt_ok Try.func6 (nt := 79) (cd := body Try.f6) rfl rfl rfl rfl ?_
  intro _
  refine head_ok rfl Try.func15 (cd := body Try.f15) rfl ?_
  intro _
  refine call_pure [(0, some 0)] (right_ok l hl) rfl rfl rfl ?_ ?_ ?_
  · exact And.intro rfl trivial
  · exact And.intro (And.intro rfl (And.intro rfl rfl)) trivial
  · intro v hv _
    rcases hv with ⟨rfl, hv⟩ | ⟨rfl, hv⟩
    · intro _
      show true = true
      rfl
    · have hv0 := hv
      intro _
      refine ⟨fun g => ?_, fun g => ?_⟩
      · intro _
        show true = true
        rfl
      · have hl2 : l.length ≤ 1000 := by
          have g : (!decide ((l.length : Int) ≤ 1000)) = false := g
          rw [Bool.not_eq_false'] at g
          have := of_decide_eq_true g
          omega
        intro _
        refine ⟨fun g2 => ?_, fun g2 => ?_⟩
        · intro _
          show true = true
          rfl
        · have g2 : decide ((l.length : Int) = 0) = false := g2
          have g2 := of_decide_eq_false g2
          have ebw : IntKind.i64.wrap b = b := by rw [IntKind.wrap_i64]; omega
          have ecw : IntKind.i64.wrap c = c := by rw [IntKind.wrap_i64]; omega
          have i1 := Int.tmod_nonneg (l.length : Int) hb.1
          have i2 := Int.tmod_lt_of_pos b (b := (l.length : Int)) (by omega)
          intro _
          refine ⟨g2, ?_⟩
          intro _
          refine ⟨by simp [AC.len], ?_⟩
          intro _
          refine ⟨fun g3 => ?_, fun _ => ?_⟩
          · have g3 : Nat.beq l.length 0 = true := g3
            have := Nat.eq_of_beq_eq_true g3
            omega
          · refine ⟨⟨rfl, by simp; omega, by simp; omega⟩, ?_⟩
            have em : ([] : List Int) ++ (l.drop 0).take l.length = l := by simp
            have hj : ((IntKind.i64.wrap b).tmod (l.length : Int)).toNat < l.length := by rw [ebw]; omega
            intro _
            refine ⟨⟨show 0 ≤ (IntKind.i64.wrap b).tmod (l.length : Int) by rw [ebw]; exact i1, show (IntKind.i64.wrap b).tmod (l.length : Int) < ((0 + l.length : Nat) : Int) by rw [ebw]; omega⟩, ?_⟩
            intro _
            refine ⟨show _ < (([] : List Int) ++ (l.drop 0).take l.length).length by rw [em]; exact hj, ?_⟩
            intro _
            refine ⟨⟨show 0 ≤ (IntKind.i64.wrap b).tmod (l.length : Int) by rw [ebw]; exact i1, show (IntKind.i64.wrap b).tmod (l.length : Int) < ((0 + l.length : Nat) : Int) by rw [ebw]; omega⟩, ?_⟩
            intro _
            refine ⟨show _ < (([] : List Int) ++ (l.drop 0).take l.length).length by rw [em]; exact hj, ?_⟩
            intro _
            refine ⟨⟨show 0 ≤ (IntKind.i64.wrap b).tmod (l.length : Int) by rw [ebw]; exact i1, show (IntKind.i64.wrap b).tmod (l.length : Int) < ((0 + l.length : Nat) : Int) by rw [ebw]; omega⟩, ?_⟩
            intro _
            refine ⟨show _ < ((([] : List Int) ++ (l.drop 0).take l.length).set _ _).length by rw [List.length_set, em]; exact hj, ?_⟩
            intro _
            have hmj := of_all l hv0 _ hj
            have eN : (([] ++ List.take l.length (List.drop 0 l)).set ((IntKind.i64.wrap b).tmod (l.length : Int)).toNat
              (IntKind.i64.wrap
                (([] ++ List.take l.length (List.drop 0 l)).getD ((IntKind.i64.wrap b).tmod (l.length : Int)).toNat 0 +
                  IntKind.i64.wrap c))) = l.set ((IntKind.i64.wrap b).tmod (l.length : Int)).toNat (l.getD ((IntKind.i64.wrap b).tmod (l.length : Int)).toNat 0 + c) := by
              rw [em, ecw]
              have := hmj.1
              have := hmj.2
              congr 1
              rw [IntKind.wrap_i64]; omega
            have eG : (l.set ((IntKind.i64.wrap b).tmod (l.length : Int)).toNat (l.getD ((IntKind.i64.wrap b).tmod (l.length : Int)).toNat 0 + c)).getD ((IntKind.i64.wrap b).tmod (l.length : Int)).toNat 0 = l.getD ((IntKind.i64.wrap b).tmod (l.length : Int)).toNat 0 + c := by
              rw [List.getD_eq_getElem?_getD, List.getElem?_set_self hj]; rfl
            refine rmargin_ok _ _ _ (fun h1 => ?_) (fun h1 => ?_)
            · intro _
              show true = true
              rfl
            · rw [eN, eG] at h1
              intro _
              refine ⟨fun g4 => ?_, fun g4 => ?_⟩
              · intro _
                show true = true
                rfl
              · have g4 : (!decide (List.getD (([] ++ List.take l.length (List.drop 0 l)).set ((IntKind.i64.wrap b).tmod (l.length : Int)).toNat
                  (IntKind.i64.wrap
                    (([] ++ List.take l.length (List.drop 0 l)).getD ((IntKind.i64.wrap b).tmod (l.length : Int)).toNat 0 +
                      IntKind.i64.wrap c))) ((IntKind.i64.wrap b).tmod (l.length : Int)).toNat 0 ≤ 1000000000)) = false := g4
                rw [Bool.not_eq_false', eN, eG] at g4
                have g4 := of_decide_eq_true g4
                have hN : ∀ n ∈ l.set ((IntKind.i64.wrap b).tmod (l.length : Int)).toNat (l.getD ((IntKind.i64.wrap b).tmod (l.length : Int)).toNat 0 + c), Mg n := fun n hn => by
                  rcases List.mem_or_eq_of_mem_set hn with h | h
                  · exact hv0 n h
                  · subst h; exact ⟨h1, g4⟩
                obtain ⟨f1, f2⟩ := more l _ hj c hc.1 hv0 hN
                intro _
                refine call_pure [(0, some 0)] (Join_ok l (by omega) hv0) rfl rfl rfl ?_ ?_ ?_
                · exact And.intro rfl trivial
                · exact And.intro (And.intro rfl (And.intro rfl rfl)) trivial
                · intro v hv _
                  subst hv
                  intro _
                  refine call_pure [(0, some 2)] (Join_ok (l.set ((IntKind.i64.wrap b).tmod (l.length : Int)).toNat (l.getD ((IntKind.i64.wrap b).tmod (l.length : Int)).toNat 0 + c)) (by rw [List.length_set]; omega) hN) rfl rfl rfl ?_ ?_ ?_
                  · exact And.intro (show l.set _ _ = _ from eN.symm) trivial
                  · exact And.intro (And.intro rfl (show (l.set _ _).length = 0 + l.length by rw [List.length_set]; omega)) trivial
                  · intro v hv _
                    subst hv
                    intro _
                    refine ⟨fun g => ?_, fun g => by simp at g⟩
                    intro _; refine ⟨fun g => ?_, fun g => by simp at g⟩
                    intro _
                    refine ⟨fun g => ?_, fun g => absurd (show _ ≥ _ from f1) (of_decide_eq_false g)⟩
                    have b1 := mx_bd _ hN
                    have b2 := mn_bd _ hN
                    have b3 := mx_bd _ hv0
                    have b4 := mn_bd _ hv0
                    intro _
                    show decide (IntKind.i64.wrap (_ - _) ≤ IntKind.i64.wrap c) = true
                    refine decide_eq_true ?_
                    rw [ecw, IntKind.wrap_i64]
                    omega

theorem walk (w : World) (v_l : Value) (s_l : Src) (l : List Int) (cap_l : Nat) (hk_l : s_l.ks = [.int .i64]) (ha_l : s_l.ac = .ints l) (hs_l : s_l.lies w) (hn_l : s_l.at_ = none → l.length = 0) (hc_l : l.length ≤ cap_l) (hv_l : v_l = s_l.val cap_l) (hm_l : l.length ≤ maxLen) (w_l : ∀ n ∈ l, (Lit.int .i64 n).wf = true) (b : Int) (w_b : (Lit.int .u8 b).wf = true) (c : Int) (w_c : (Lit.int .u16 c).wf = true) :
    Calls Try.prog 6 #[v_l, .int .u8 b, .int .u16 c] w fun e w' => e = .returned (.bool true) ∧ Below w.heap.size w w' := by
  obtain ⟨at_l, ks_l, ac_l⟩ := s_l
  simp only [] at hk_l ha_l
  subst hk_l ha_l
  have h_l : l.length ≤ 9223372036854775807 := by unfold maxLen at hm_l; omega
  have b_b := w_b
  simp [Lit.wf, IntKind.min, IntKind.max, IntKind.signed, IntKind.bits] at b_b
  have b_c := w_c
  simp [Lit.wf, IntKind.min, IntKind.max, IntKind.signed, IntKind.bits] at b_c
  exact top_run (by kernel_rfl) (by kernel_rfl) (T := [15]) (fun f hf w => by
      rcases List.mem_cons.1 hf with e | e
      · subst e; exact head w
      · exact (List.not_mem_nil e).elim) (l := [⟨at_l, [.int .i64], .ints l⟩]) (args := [.slc 0 1 0 l.length, .int .u8 b, .int .u16 c]) («as» := [Src.av 0 cap_l ⟨at_l, [.int .i64], .ints l⟩, .int .u8 b, .int .u16 c]) (cargs := [v_l, .int .u8 b, .int .u16 c]) w
    (fun s h => by
      rcases List.mem_cons.1 h with e | h
      · subst e; exact hs_l
      · exact (List.not_mem_nil h).elim)
    (Cvs.cons (src_cv (s := ⟨at_l, [.int .i64], .ints l⟩) rfl 1 hc_l hn_l) (Cvs.cons mk_int (Cvs.cons mk_int Cvs.nil)))
    (by simp only [Go.Vm.convs, Go.Vm.conv]; rw [src_conv (j := 0) (s := ⟨at_l, [.int .i64], .ints l⟩) rfl, hv_l])
    (grow l b c (by omega) (by omega) h_l)

set_option maxRecDepth 100000 in
theorem lifted (os : Os) (started : os.Started) (H : Type) (enc : TypeId × Value → H) :
    ReturnsInHanded {} Try.checked os 6 .any (Rows.marginsGrowSpec.pre6 enc Try.prog Try.f6 Rows.marginsGrowRow.domain false) (Rows.marginsGrowSpec.post enc Try.prog Try.f6 false true false false) := by
  refine returnsInHanded_of_change (C := Try.checked) own started (by kernel_rfl) Try.func6
    (ChangeSpec.witness6 (enc := enc) (C := Try.checked) false ⟨#[], #[.slice none 0 0, .int .u8 0, .int .u16 0], []⟩ 8 (by kernel_rfl) (by kernel_rfl) (by kernel_rfl) (by kernel_rfl)) ?_
  intro W base args ds gs before hval0 hW hcnd _
  have hval : ∀ (j : Nat) t v, Try.f6.params[j]? = some t → args[j]? = some v → Value.okWide Try.prog W .any base t v := hval0
  have hW' := hW
  obtain ⟨p, q, hA0, hV, rfl, hfz, hnd⟩ := hW
  have hA : DataW.TrodAll enc Try.prog W 0 (fun _ => true) true Try.f6.params.toList args.toList ds p := hA0
  rw [Try.params6] at hA hval
  obtain ⟨v0, vs0, d0, ds0, p0, q0, hargs, rfl, rfl, h0, r0⟩ := trodAll_cons hA
  obtain ⟨v1, vs1, d1, ds1, p1, q1, rfl, rfl, rfl, h1, r1⟩ := trodAll_cons r0
  obtain ⟨v2, vs2, d2, ds2, p2, q2, rfl, rfl, rfl, h2, r2⟩ := trodAll_cons r1
  obtain ⟨rfl, rfl, rfl⟩ := trodAll_nil r2
  obtain rfl : args = #[v0, v1, v2] := by cases args; simp_all
  obtain ⟨rfl, rfl⟩ := trodVars_none hV
  obtain ⟨s_l, l, cap_l, hk_l, ha_l, hs_l, hn_l, hc_l, hv_l, hm_l, w_l⟩ := Go.Vm2.open_list Try.underlying22 Try.underlying3 (by kernel_rfl) (hval 0 22 v0 rfl rfl) h0
  have hlt0 : ∀ x ∈ p0, x.block < W.heap.size := fun x hx => by simpa using hW'.lt x (by simp [hx])
  obtain ⟨b, rfl, rfl, rfl, w_b⟩ := open_int Try.underlying5 (hval 1 5 v1 rfl rfl) h1
  obtain ⟨c, rfl, rfl, rfl, w_c⟩ := open_int Try.underlying35 (hval 2 35 v2 rfl rfl) h2
  clear hA0 hval0
  refine (walk W v0 s_l l cap_l hk_l ha_l hs_l hn_l hc_l hv_l hm_l w_l b w_b c w_c).mono fun e W' ⟨he, hg⟩ => ?_
  subst he
  exact ⟨_, rfl, _, _, _, [], _, [], hW', trodAll_cons_mk (shut_bool Try.underlying4 _) trodAll_mk0, (trodAll_cons_mk (Below.trod laidOut (by kernel_rfl) (of_decide_eq_true (by kernel_rfl)) h0 hg hlt0) (trodAll_cons_mk (shut_int Try.underlying5 w_b) (trodAll_cons_mk (shut_int Try.underlying35 w_c) trodAll_mk0))), rfl, hg.frame _, fun h => by cases h⟩

theorem over : Rows.marginsGrowRow.holds Try.pinned (OpenSpec.ofChange Rows.marginsGrowSpec) :=
  OpenClaim.holds_of_wide 6 Try.f6 rfl rfl rfl rfl rfl rfl rfl ⟨rfl, rfl, rfl, rfl, rfl⟩ rfl rfl rfl rfl rfl (by kernel_rfl) Try.func6 (by kernel_rfl)
    (of_decide_eq_true (by kernel_rfl)) (by unfold Func.isWrapper; first | (rw [if_pos (by decide +kernel)]; kernel_rfl) | (rw [if_neg (by decide +kernel)]; exact ⟨rfl, rfl⟩))
    (fun os started H enc _ => lifted os started H enc)

/-- the statement -/
theorem proved : Rows.MarginsGrowSaid :=
  over
#print axioms proved
end Go.Proofs.Ytkphagflnhnfkaa.marginsGrow
