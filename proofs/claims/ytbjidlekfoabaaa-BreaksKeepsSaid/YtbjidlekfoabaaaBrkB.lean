/-
  Part of the proofs of layer 8 (breaks): what its functions return, as contracts of the machine by names. No conditions beyond those that its theorems name.
-/
import Derived.Test.YtbjidlekfoabaaaRows
import Derived.Test.YtbjidlekfoabaaaVwOpen2
import Derived.Test.YtbjidlekfoabaaaVwRules6
import Derived.Test.YtbjidlekfoabaaaVmSym
import Derived.WalkKit
import Derived.ProofKit
import Derived.OpenShut
import Derived.Carry
import Derived.ChangeMaps5
import Derived.Laws.RangeAny
import Derived.Test.YtbjidlekfoabaaaBrkA
namespace Go.Proofs.Ytbjidlekfoabaaa.brk
open Go.ChangeShapes Go.WideShapes Go.ChangeAt Go.RowKit
open Go.Vm (Facts Val Sound)
open Go.Vm2
set_option linter.unusedVariables false
set_option linter.unusedSectionVars false

set_option maxRecDepth 100000
def row (s : List UInt8) (a : Nat) : List D := [.n (a : Int), .b (decide (HY s a))]
theorem lst_row {bf bh : Int} {kp : LD} {s : List UInt8} : ∀ (m i : Nat), i < List.length (lst bf bh kp s m) → ∃ a, 1 ≤ a ∧ a < m ∧ PL bf bh kp s a ∧ (lst bf bh kp s m).getD i [] = row s a
  | 0, i, h => by simp [lst] at h
  | m + 1, i, h => by
    have ls : lst bf bh kp s (m + 1) = lst bf bh kp s m ++ (if 1 ≤ m ∧ PL bf bh kp s m then [row s m] else []) := rfl
    rw [ls] at h ⊢
    rcases Nat.lt_or_ge i (lst bf bh kp s m).length with q | q
    · obtain ⟨a, a1, a2, a3, a4⟩ := lst_row (bf := bf) (bh := bh) (kp := kp) (s := s) m i q
      refine ⟨a, a1, by omega, a3, ?_⟩
      rw [List.getD_eq_getElem?_getD, List.getElem?_append_left q, ← List.getD_eq_getElem?_getD]
      exact a4
    · by_cases c : 1 ≤ m ∧ PL bf bh kp s m
      · rw [if_pos c] at h ⊢
        have hi : i = (lst bf bh kp s m).length := by simp at h; omega
        refine ⟨m, c.1, by omega, c.2, ?_⟩
        rw [List.getD_eq_getElem?_getD, List.getElem?_append_right q, hi, Nat.sub_self]
        rfl
      · rw [if_neg c] at h
        simp at h; omega
theorem lst_inc {bf bh : Int} {kp : LD} {s : List UInt8} : ∀ (m i : Nat), i + 1 < List.length (lst bf bh kp s m) → cI ((lst bf bh kp s m).getD i []) 0 < cI ((lst bf bh kp s m).getD (i + 1) []) 0
  | 0, i, h => by simp [lst] at h
  | m + 1, i, h => by
    have ls : lst bf bh kp s (m + 1) = lst bf bh kp s m ++ (if 1 ≤ m ∧ PL bf bh kp s m then [row s m] else []) := rfl
    rw [ls] at h ⊢
    rcases Nat.lt_or_ge (i + 1) (lst bf bh kp s m).length with q | q
    · have := lst_inc (bf := bf) (bh := bh) (kp := kp) (s := s) m i q
      rw [List.getD_eq_getElem?_getD, List.getElem?_append_left (by omega), ← List.getD_eq_getElem?_getD, List.getD_eq_getElem?_getD (i := i + 1), List.getElem?_append_left q, ← List.getD_eq_getElem?_getD]
      exact this
    · by_cases c : 1 ≤ m ∧ PL bf bh kp s m
      · rw [if_pos c] at h ⊢
        have hi : i + 1 = (lst bf bh kp s m).length := by simp at h; omega
        obtain ⟨a, a1, a2, a3, a4⟩ := lst_row (bf := bf) (bh := bh) (kp := kp) (s := s) m i (by omega)
        rw [List.getD_eq_getElem?_getD, List.getElem?_append_left (by omega), ← List.getD_eq_getElem?_getD, a4, List.getD_eq_getElem?_getD, List.getElem?_append_right q, hi, Nat.sub_self]
        show (a : Int) < (m : Int)
        omega
      · rw [if_neg c] at h
        simp at h; omega
theorem PL_by {bf bh : Int} {kp : LD} {s : List UInt8} {a : Nat} (h : PL bf bh kp s a) (hb : 1 ≤ bh) (ha : a < s.length) : (by' s (a - 1) = 32 ∨ by' s (a - 1) = 45 ∨ by' s (a - 1) = 126) ∧ by' s a ≠ 32 := by
  rcases h with h | h | h
  · exact ⟨.inl h.1, h.2.2⟩
  · refine ⟨.inr (.inl h.1), fun e => ?_⟩
    have := h.2.2.2
    rw [e] at this
    unfold isW at this; revert this; decide
  · refine ⟨.inr (.inr h.1), fun e => ?_⟩
    have := h.2.2.2.2.1
    rw [FB_step s ha, e] at this
    unfold fo at this
    rw [if_neg (by unfold isL; decide), if_neg (by decide)] at this
    omega
set_option maxHeartbeats 1000000 in
theorem law4 (bf bh : Int) (kp : LD) (s : List UInt8) (hl : s.length ≤ 9223372036854775807) : SemF Try.prog 4 [.agg [.int .i64 bf, .int .i64 bh, .slc 0 1 0 kp.length], .str s] ⟨1, 1, [(0, .arr [.str] .ro (.recs kp))]⟩ (fun v _ => IsTrue v) := by
  refine enter tt_ok Try.func4 (nt := 80) (cd := body Try.f4) rfl rfl rfl rfl ?_
  intro _
  refine head_ok rfl Try.func9 (cd := body Try.f9) rfl ?_
  intro _
  refine call_pure [(0, some 0)] (usable_ok bf bh kp s hl) rfl rfl rfl ?_ ?_ ?_
  · (repeat' first | exact trivial | exact rfl | refine And.intro ?_ ?_)
  · (repeat' first | exact trivial | exact rfl | refine And.intro ?_ ?_)
  intro v hv _
  subst hv
  intro _; refine ⟨fun g => ?_, fun g => ?_⟩
  · intro _
    rfl
  have g : (!decide (US bf bh kp s)) = false := g
  rw [Bool.not_eq_false'] at g
  obtain ⟨hs3, hVB, hVA⟩ := of_decide_eq_true g
  have xE : LE bf bh kp s = 0 := by unfold LE; rw [if_pos ⟨hVB, hVA⟩]
  have xS : LS bf bh kp s = lst bf bh kp s s.length := by unfold LS; rw [if_pos ⟨hVB, hVA⟩]
  have hLl := lst_len bf bh kp s s.length
  rw [← xS] at hLl
  intro _
  refine call_new [(0, some 0)] (List_ok bf bh kp s hl) rfl rfl rfl rfl ?_ ?_ ?_
  · (repeat' first | exact trivial | exact rfl | refine And.intro ?_ ?_)
  · (repeat' first | exact trivial | exact rfl | refine And.intro ?_ ?_)
  intro v h' hv
  obtain ⟨rfl, rfl⟩ := hv
  refine ⟨[(2, some 1)], 3, [(2, .arr [.int .i64, .bool] .grow (.recs (LS bf bh kp s)))], .tup [.grw 2 (LS bf bh kp s).length, .int .i64 (LE bf bh kp s)], rfl, rfl, rfl, rfl, rfl, ?_, ?_, ?_⟩
  · (repeat' first | exact trivial | exact rfl | refine And.intro ?_ ?_)
  · (repeat' first | exact trivial | exact rfl | refine And.intro ?_ ?_)
  intro _
  refine loop2 tt_ok [9, 8] [] 3 (fun i : { i : Nat // i ≤ (LS bf bh kp s).length } => [(9, .int .i64 (i.1 : Nat)), (8, .int .i64 (if i.1 = 0 then 0 else cI ((LS bf bh kp s).getD (i.1 - 1) []) 0))]) (fun _ => []) (fun i => (LS bf bh kp s).length - i.1) ⟨0, by omega⟩ ?_
  intro _
  refine ⟨⟨th [] 3, rfl, rfl, rfl, rfl, rfl, rfl, ?_, ?_⟩, ?_⟩
  · (repeat' first | exact trivial | exact rfl | refine And.intro ?_ ?_)
  · (repeat' first | exact trivial | exact rfl | refine And.intro ?_ ?_)
  intro ⟨i, h1⟩
  intro _; refine ⟨fun g => ?_, fun g => ?_⟩
  rotate_left
  · intro _
    show (LE bf bh kp s == 0) = true
    rw [xE]; rfl
  have g := of_decide_eq_true (show decide ((i : Int) < ((LS bf bh kp s).length : Int)) = true from g)
  obtain ⟨a, a1, a2, a3, a4⟩ := lst_row (bf := bf) (bh := bh) (kp := kp) (s := s) s.length i (by rw [← xS]; omega)
  rw [← xS] at a4
  have ea : cI ((LS bf bh kp s).getD (i : Int).toNat []) 0 = (a : Int) := by rw [Int.toNat_natCast, a4]; rfl
  have eh : cB ((LS bf bh kp s).getD (i : Int).toNat []) 1 = decide (HY s a) := by rw [Int.toNat_natCast, a4]; rfl
  obtain ⟨hc, hn⟩ := PL_by a3 hVB.2.1.1 a2
  have ew : IntKind.i64.wrap (cI ((LS bf bh kp s).getD (i : Int).toNat []) 0 - 1) = ((a - 1 : Nat) : Int) := by rw [ea, wrapS _ ⟨by omega, by omega⟩]; omega
  have ew' : (IntKind.i64.wrap (cI ((LS bf bh kp s).getD (i : Int).toNat []) 0 - 1)).toNat = a - 1 := by rw [ew]; omega
  have ea' : (cI ((LS bf bh kp s).getD (i : Int).toNat []) 0).toNat = a := by rw [ea]; omega
  intro _; refine ⟨show 0 ≤ (i : Int) ∧ (i : Int) < ((LS bf bh kp s).length : Int) by omega, ?_⟩
  intro _; refine ⟨show (i : Int).toNat < (LS bf bh kp s).length by omega, ?_⟩
  intro _; refine ⟨fun g => ?_, fun g => ?_⟩
  · exfalso
    have g2 := of_decide_eq_true (show decide (cI ((LS bf bh kp s).getD (i : Int).toNat []) 0 ≤ (if i = 0 then 0 else cI ((LS bf bh kp s).getD (i - 1) []) 0)) = true from g)
    rw [ea] at g2
    split at g2
    · omega
    · rename_i hi
      have := lst_inc (bf := bf) (bh := bh) (kp := kp) (s := s) s.length (i - 1) (by rw [← xS]; omega)
      rw [← xS, show i - 1 + 1 = i by omega, a4] at this
      have this : _ < (a : Int) := this
      omega
  intro _; refine ⟨fun g => ?_, fun g => ?_⟩
  · exfalso
    have g2 := of_decide_eq_true (show decide (cI ((LS bf bh kp s).getD (i : Int).toNat []) 0 ≥ (s.length : Int)) = true from g)
    rw [ea] at g2; omega
  intro _; refine ⟨show 0 ≤ IntKind.i64.wrap (cI ((LS bf bh kp s).getD (i : Int).toNat []) 0 - 1) ∧ IntKind.i64.wrap (cI ((LS bf bh kp s).getD (i : Int).toNat []) 0 - 1) < (s.length : Int) by rw [ew]; omega, ?_⟩
  have fin : ((⟨i + 1, by omega⟩ : { i : Nat // i ≤ (LS bf bh kp s).length }).1 = i + 1) := rfl
  intro _; refine ⟨fun g => ?_, fun g => ?_⟩
  · have g1 := bne_iff_ne.1 (show (by' s (IntKind.i64.wrap (cI ((LS bf bh kp s).getD (i : Int).toNat []) 0 - 1)).toNat != 32) = true from g)
    rw [ew'] at g1
    intro _; refine ⟨fun g => ?_, fun g => ?_⟩
    · have g2 := bne_iff_ne.1 (show (by' s (IntKind.i64.wrap (cI ((LS bf bh kp s).getD (i : Int).toNat []) 0 - 1)).toNat != 45) = true from g)
      rw [ew'] at g2
      intro _; refine ⟨fun g => ?_, fun g => ?_⟩
      · exfalso
        have g3 := bne_iff_ne.1 (show (by' s (IntKind.i64.wrap (cI ((LS bf bh kp s).getD (i : Int).toNat []) 0 - 1)).toNat != 126) = true from g)
        rw [ew'] at g3
        omega
      intro _; refine ⟨show 0 ≤ (i : Int) ∧ (i : Int) < ((LS bf bh kp s).length : Int) by omega, ?_⟩
      intro _; refine ⟨show (i : Int).toNat < (LS bf bh kp s).length by omega, ?_⟩
      intro _; refine ⟨fun g => ?_, fun g => ?_⟩
      · exfalso
        have g5 : (!(cB ((LS bf bh kp s).getD (i : Int).toNat []) 1 == (by' s (IntKind.i64.wrap (cI ((LS bf bh kp s).getD (i : Int).toNat []) 0 - 1)).toNat == 126))) = true := g
        rw [eh, ew', Bool.not_eq_true'] at g5
        have : decide (HY s a) = (by' s (a - 1) == 126) := by
          by_cases q : HY s a
          · rw [decide_eq_true q, show by' s (a - 1) = 126 from q]; rfl
          · rw [decide_eq_false q]; exact (beq_eq_false_iff_ne.2 q).symm
        rw [this] at g5
        simp at g5
      intro _; refine ⟨show 0 ≤ cI ((LS bf bh kp s).getD (i : Int).toNat []) 0 ∧ cI ((LS bf bh kp s).getD (i : Int).toNat []) 0 < (s.length : Int) by rw [ea]; omega, ?_⟩
      intro _; refine ⟨fun g => ?_, fun g => ?_⟩
      · exfalso
        have g6 := eq_of_beq (show (by' s (cI ((LS bf bh kp s).getD (i : Int).toNat []) 0).toNat == 32) = true from g)
        rw [ea'] at g6
        exact hn g6
      refine ⟨⟨i + 1, by omega⟩, by simp only []; omega, th [] 3, rfl, rfl, rfl, rfl, rfl, rfl, ?_, ?_⟩
      · (repeat' first | exact trivial | exact rfl | refine And.intro ?_ ?_)
        exact (wrap_nat i (by omega)).symm
      · (repeat' first | exact trivial | exact rfl | refine And.intro ?_ ?_)
    intro _; refine ⟨show 0 ≤ (i : Int) ∧ (i : Int) < ((LS bf bh kp s).length : Int) by omega, ?_⟩
    intro _; refine ⟨show (i : Int).toNat < (LS bf bh kp s).length by omega, ?_⟩
    intro _; refine ⟨fun g => ?_, fun g => ?_⟩
    · exfalso
      have g5 : (!(cB ((LS bf bh kp s).getD (i : Int).toNat []) 1 == (by' s (IntKind.i64.wrap (cI ((LS bf bh kp s).getD (i : Int).toNat []) 0 - 1)).toNat == 126))) = true := g
      rw [eh, ew', Bool.not_eq_true'] at g5
      have : decide (HY s a) = (by' s (a - 1) == 126) := by
        by_cases q : HY s a
        · rw [decide_eq_true q, show by' s (a - 1) = 126 from q]; rfl
        · rw [decide_eq_false q]; exact (beq_eq_false_iff_ne.2 q).symm
      rw [this] at g5
      simp at g5
    intro _; refine ⟨show 0 ≤ cI ((LS bf bh kp s).getD (i : Int).toNat []) 0 ∧ cI ((LS bf bh kp s).getD (i : Int).toNat []) 0 < (s.length : Int) by rw [ea]; omega, ?_⟩
    intro _; refine ⟨fun g => ?_, fun g => ?_⟩
    · exfalso
      have g6 := eq_of_beq (show (by' s (cI ((LS bf bh kp s).getD (i : Int).toNat []) 0).toNat == 32) = true from g)
      rw [ea'] at g6
      exact hn g6
    refine ⟨⟨i + 1, by omega⟩, by simp only []; omega, th [] 3, rfl, rfl, rfl, rfl, rfl, rfl, ?_, ?_⟩
    · (repeat' first | exact trivial | exact rfl | refine And.intro ?_ ?_)
      exact (wrap_nat i (by omega)).symm
    · (repeat' first | exact trivial | exact rfl | refine And.intro ?_ ?_)
  intro _; refine ⟨show 0 ≤ (i : Int) ∧ (i : Int) < ((LS bf bh kp s).length : Int) by omega, ?_⟩
  intro _; refine ⟨show (i : Int).toNat < (LS bf bh kp s).length by omega, ?_⟩
  intro _; refine ⟨fun g => ?_, fun g => ?_⟩
  · exfalso
    have g5 : (!(cB ((LS bf bh kp s).getD (i : Int).toNat []) 1 == (by' s (IntKind.i64.wrap (cI ((LS bf bh kp s).getD (i : Int).toNat []) 0 - 1)).toNat == 126))) = true := g
    rw [eh, ew', Bool.not_eq_true'] at g5
    have : decide (HY s a) = (by' s (a - 1) == 126) := by
      by_cases q : HY s a
      · rw [decide_eq_true q, show by' s (a - 1) = 126 from q]; rfl
      · rw [decide_eq_false q]; exact (beq_eq_false_iff_ne.2 q).symm
    rw [this] at g5
    simp at g5
  intro _; refine ⟨show 0 ≤ cI ((LS bf bh kp s).getD (i : Int).toNat []) 0 ∧ cI ((LS bf bh kp s).getD (i : Int).toNat []) 0 < (s.length : Int) by rw [ea]; omega, ?_⟩
  intro _; refine ⟨fun g => ?_, fun g => ?_⟩
  · exfalso
    have g6 := eq_of_beq (show (by' s (cI ((LS bf bh kp s).getD (i : Int).toNat []) 0).toNat == 32) = true from g)
    rw [ea'] at g6
    exact hn g6
  refine ⟨⟨i + 1, by omega⟩, by simp only []; omega, th [] 3, rfl, rfl, rfl, rfl, rfl, rfl, ?_, ?_⟩
  · (repeat' first | exact trivial | exact rfl | refine And.intro ?_ ?_)
    exact (wrap_nat i (by omega)).symm
  · (repeat' first | exact trivial | exact rfl | refine And.intro ?_ ?_)
set_option maxRecDepth 100000
theorem by_mem {s : List UInt8} {i : Nat} (h : i < s.length) : s.getD i 0 ∈ s := by
  rw [List.getD_eq_getElem?_getD, List.getElem?_eq_getElem h]; exact List.getElem_mem h
theorem VA_sub {s u : List UInt8} (h : VA s) (hl : u.length ≤ 2000) (hs : ∀ b ∈ u, b ∈ s) : VA u := by
  refine ⟨hl, fun i hi => ?_⟩
  obtain ⟨j, hj, e⟩ := List.getElem_of_mem (hs _ (by_mem hi))
  have := h.2 j hj
  unfold by' at this ⊢
  rw [show s.getD j 0 = s[j] by rw [List.getD_eq_getElem?_getD, List.getElem?_eq_getElem hj]; rfl, e] at this
  exact this
theorem VA_sh {s : List UInt8} (h : VA s) : VA (sh s) :=
  VA_sub h (Nat.le_trans (List.length_filter_le _ _) h.1) (fun b hb => (List.mem_filter.1 (show b ∈ s.filter fun b => b != 126 from hb)).1)
/-- a stretch -/
def seg (s : List UInt8) (f u : Int) : List UInt8 := (s.drop f.toNat).take (u.toNat - f.toNat)
theorem VA_seg {s : List UInt8} (h : VA s) (f u : Int) : VA (seg s f u) :=
  VA_sub h (by unfold seg; have := h.1; simp; omega) (fun b hb => List.mem_of_mem_drop (List.mem_of_mem_take hb))
def pt (u : List UInt8) (hy : Bool) : List UInt8 := tr (sh u) ++ (if hy then [45] else [])
theorem tr_len (u : List UInt8) : (tr u).length ≤ u.length := by
  unfold tr
  refine Nat.le_trans ?_ (trL_le 2000 u)
  generalize trL 2000 u = w
  generalize 2000 = n
  induction n generalizing w with
  | zero => exact Nat.le_refl _
  | succ n ih =>
    simp only [trR]
    split
    · exact Nat.le_trans (ih _) (by simp)
    · exact Nat.le_refl _
theorem tsh_len {u : List UInt8} (h : VA u) : (tr (sh u)).length ≤ 2000 := Nat.le_trans (tr_len _) (VA_sh h).1
theorem Shw_ok (s : List UInt8) (hV : VA s) : SemF Try.prog 26 [.str s] ⟨0, 0, []⟩ (fun v _ => v = .tup [.str (sh s), .int .i64 0] ∧ nameless v = true) := by
  have h := Shown_ok s (by have := hV.1; omega)
  unfold SQ at h; rw [if_pos hV] at h; exact h
theorem rShw_ok (s : List UInt8) (hV : VA s) : SemF Try.prog 45 [.str s] ⟨0, 0, []⟩ (fun v _ => v = .tup [.str (sh s), .int .i64 0] ∧ nameless v = true) := by
  have h := rShown_ok s (by have := hV.1; omega)
  unfold SQ at h; rw [if_pos hV] at h; exact h
theorem Trm_ok (s : List UInt8) (hV : VA s) : SemF Try.prog 27 [.str s] ⟨0, 0, []⟩ (fun v _ => v = .tup [.str (tr s), .int .i64 0] ∧ nameless v = true) := by
  have h := Trim_ok s (by have := hV.1; omega)
  unfold TQ at h; rw [if_pos hV] at h; exact h
theorem rTrm_ok (s : List UInt8) (hV : VA s) : SemF Try.prog 46 [.str s] ⟨0, 0, []⟩ (fun v _ => v = .tup [.str (tr s), .int .i64 0] ∧ nameless v = true) := by
  have h := rTrim_ok s (by have := hV.1; omega)
  unfold TQ at h; rw [if_pos hV] at h; exact h
theorem part_ok (s : List UInt8) (f u : Int) (hy : Bool) (hV : VA s) (h0 : 0 ≤ f) (h1 : f ≤ u) (h2 : u ≤ s.length) : SemF Try.prog 28 [.str s, .int .i64 f, .int .i64 u, .test hy] ⟨0, 0, []⟩ (fun v _ => v = .str (pt (seg s f u) hy) ∧ nameless v = true) := by
  refine enter tt_ok Try.func28 (nt := 30) (cd := body Try.f28) rfl rfl rfl rfl ?_
  have hG := VA_seg hV f u
  have hT := tsh_len hG
  intro _; refine ⟨⟨h0, h1, h2⟩, ?_⟩
  intro _
  refine call_pure [] (rShw_ok (seg s f u) hG) rfl rfl rfl ?_ ?_ ?_
  · (repeat' first | exact trivial | exact rfl | refine And.intro ?_ ?_)
  · (repeat' first | exact trivial | exact rfl | refine And.intro ?_ ?_)
  intro v hv _
  subst hv
  intro _
  refine call_pure [] (rTrm_ok (sh (seg s f u)) (VA_sh hG)) rfl rfl rfl ?_ ?_ ?_
  · (repeat' first | exact trivial | exact rfl | refine And.intro ?_ ?_)
  · (repeat' first | exact trivial | exact rfl | refine And.intro ?_ ?_)
  intro v hv _
  subst hv
  intro _; refine ⟨fun g => ?_, fun g => ?_⟩
  · have g : hy = true := g
    intro _; refine ⟨show (tr (sh (seg s f u))).length + 1 ≤ 9223372036854775807 by omega, ?_⟩
    intro _
    refine ⟨?_, rfl⟩
    unfold pt; rw [if_pos g]
  have g : hy = false := g
  intro _
  refine ⟨?_, rfl⟩
  unfold pt; rw [if_neg (by rw [g]; decide), List.append_nil]
/-! parts, place by place -/
def fri (L : LD) : Nat → Int
  | 0 => 0
  | i + 1 => cI (L.getD i []) 0
def opt (p : List UInt8) : LD := if p = [] then [] else [[.s p]]
def PTi (s : List UInt8) (L : LD) : Nat → LD
  | 0 => []
  | i + 1 => PTi s L i ++ opt (pt (seg s (fri L i) (cI (L.getD i []) 0)) (cB (L.getD i []) 1))
theorem fri_s (L : LD) (i : Nat) : fri L (i + 1) = cI (L.getD i []) 0 := rfl
theorem PTi_s (s : List UInt8) (L : LD) (i : Nat) : PTi s L (i + 1) = PTi s L i ++ opt (pt (seg s (fri L i) (cI (L.getD i []) 0)) (cB (L.getD i []) 1)) := rfl
theorem fri_app {L : LD} {r : List D} : ∀ i, i ≤ L.length → fri (L ++ [r]) i = fri L i
  | 0, _ => rfl
  | i + 1, h => by
    simp only [fri]
    rw [List.getD_eq_getElem?_getD, List.getElem?_append_left (by omega), ← List.getD_eq_getElem?_getD]
theorem PTi_app {s : List UInt8} {L : LD} {r : List D} : ∀ i, i ≤ L.length → PTi s (L ++ [r]) i = PTi s L i
  | 0, _ => rfl
  | i + 1, h => by
    simp only [PTi]
    rw [PTi_app i (by omega), fri_app i (by omega), List.getD_eq_getElem?_getD, List.getElem?_append_left (by omega), ← List.getD_eq_getElem?_getD]
theorem opt_len (p : List UInt8) : (opt p).length ≤ 1 := by unfold opt; split <;> simp
theorem PTi_len (s : List UInt8) (L : LD) : ∀ i, List.length (PTi s L i) ≤ i
  | 0 => by simp [PTi]
  | i + 1 => by
    have := PTi_len s L i
    have := opt_len (pt (seg s (fri L i) (cI (L.getD i []) 0)) (cB (L.getD i []) 1))
    simp only [PTi, List.length_append]; omega
/-- with m places behind -/
def frm (bf bh : Int) (kp : LD) (s : List UInt8) (m : Nat) : Int := fri (lst bf bh kp s m) (lst bf bh kp s m).length
def PTm (bf bh : Int) (kp : LD) (s : List UInt8) (m : Nat) : LD := PTi s (lst bf bh kp s m) (lst bf bh kp s m).length
theorem frm_no {bf bh : Int} {kp : LD} {s : List UInt8} {m : Nat} (h : ¬ (1 ≤ m ∧ PL bf bh kp s m)) : frm bf bh kp s (m + 1) = frm bf bh kp s m ∧ PTm bf bh kp s (m + 1) = PTm bf bh kp s m := by
  have e : lst bf bh kp s (m + 1) = lst bf bh kp s m := by simp only [lst]; rw [if_neg h, List.append_nil]
  unfold frm PTm; rw [e]; exact ⟨rfl, rfl⟩
theorem frm_yes {bf bh : Int} {kp : LD} {s : List UInt8} {m : Nat} (h : 1 ≤ m ∧ PL bf bh kp s m) : frm bf bh kp s (m + 1) = m ∧ PTm bf bh kp s (m + 1) = PTm bf bh kp s m ++ opt (pt (seg s (frm bf bh kp s m) m) (decide (HY s m))) := by
  have e : lst bf bh kp s (m + 1) = lst bf bh kp s m ++ [row s m] := by simp only [lst]; rw [if_pos h]; rfl
  have eg : (lst bf bh kp s m ++ [row s m]).getD (lst bf bh kp s m).length [] = row s m := by
    rw [List.getD_eq_getElem?_getD, List.getElem?_append_right (Nat.le_refl _), Nat.sub_self]; rfl
  unfold frm PTm
  rw [e, show (lst bf bh kp s m ++ [row s m]).length = (lst bf bh kp s m).length + 1 by simp, fri_s, PTi_s, eg, PTi_app _ (Nat.le_refl _), fri_app _ (Nat.le_refl _)]
  exact ⟨rfl, rfl⟩
theorem frm_bd {bf bh : Int} {kp : LD} {s : List UInt8} : ∀ m : Nat, 0 ≤ frm bf bh kp s m ∧ frm bf bh kp s m ≤ m
  | 0 => ⟨Int.le_refl _, Int.le_refl _⟩
  | m + 1 => by
    have := frm_bd (bf := bf) (bh := bh) (kp := kp) (s := s) m
    by_cases h : 1 ≤ m ∧ PL bf bh kp s m
    · rw [(frm_yes h).1]; omega
    · rw [(frm_no h).1]; omega
theorem PTm_len {bf bh : Int} {kp : LD} {s : List UInt8} (m : Nat) : (PTm bf bh kp s m).length ≤ m := Nat.le_trans (PTi_len _ _ _) (lst_len _ _ _ _ _)
def FT (bf bh : Int) (kp : LD) (s : List UInt8) : LD := if VB bf bh kp ∧ VA s then PTm bf bh kp s s.length ++ opt (pt (seg s (frm bf bh kp s s.length) s.length) false) else []
def TQ8 (bf bh : Int) (kp : LD) (s : List UInt8) : V → H → Prop := fun v h' => v = .tup [.grw 1 (FT bf bh kp s).length, .int .i64 (LE bf bh kp s)] ∧ h' = ⟨2, 1, [(1, .arr [.str] .grow (.recs (FT bf bh kp s)))]⟩
theorem fri_bd {bf bh : Int} {kp : LD} {s : List UInt8} (m : Nat) : ∀ i, i ≤ List.length (lst bf bh kp s m) → 0 ≤ fri (lst bf bh kp s m) i ∧ fri (lst bf bh kp s m) i ≤ m ∧ (i < List.length (lst bf bh kp s m) → fri (lst bf bh kp s m) i ≤ cI ((lst bf bh kp s m).getD i []) 0)
  | 0, h => by
    refine ⟨Int.le_refl _, by simp [fri], fun hi => ?_⟩
    obtain ⟨a, a1, a2, a3, a4⟩ := lst_row (bf := bf) (bh := bh) (kp := kp) (s := s) m 0 hi
    rw [a4]; show (0 : Int) ≤ (a : Int); omega
  | i + 1, h => by
    obtain ⟨a, a1, a2, a3, a4⟩ := lst_row (bf := bf) (bh := bh) (kp := kp) (s := s) m i (by omega)
    have e : fri (lst bf bh kp s m) (i + 1) = a := by simp only [fri]; rw [a4]; rfl
    rw [e]
    refine ⟨by omega, by omega, fun hi => ?_⟩
    have := lst_inc (bf := bf) (bh := bh) (kp := kp) (s := s) m i hi
    rw [a4] at this
    have this : (a : Int) < _ := this
    omega
theorem opt_nil {p : List UInt8} (h : p = []) : opt p = [] := by unfold opt; rw [if_pos h]
theorem opt_one {p : List UInt8} (h : p ≠ []) : opt p = [[.s p]] := by unfold opt; rw [if_neg h]
set_option maxHeartbeats 2000000 in
theorem rLeast_ok (bf bh : Int) (kp : LD) (s : List UInt8) (hl : s.length ≤ 9223372036854775807) : SemF Try.prog 16 [.agg [.int .i64 bf, .int .i64 bh, .slc 0 1 0 kp.length], .str s] ⟨1, 1, [(0, .arr [.str] .rd (.recs kp))]⟩ (TQ8 bf bh kp s) := by
  refine SemF.ret ?_
  refine enter tt_ok Try.func16 (nt := 58) (cd := body Try.f16) rfl rfl rfl rfl ?_
  intro _
  refine call_new [(0, some 0)] (rList_ok bf bh kp s hl) rfl rfl rfl rfl ?_ ?_ ?_
  · (repeat' first | exact trivial | exact rfl | refine And.intro ?_ ?_)
  · (repeat' first | exact trivial | exact rfl | refine And.intro ?_ ?_)
  intro v h' hv
  obtain ⟨rfl, rfl⟩ := hv
  refine ⟨[(2, some 1)], 3, [(2, .arr [.int .i64, .bool] .grow (.recs (LS bf bh kp s)))], .tup [.grw 2 (LS bf bh kp s).length, .int .i64 (LE bf bh kp s)], rfl, rfl, rfl, rfl, rfl, ?_, ?_, ?_⟩
  · (repeat' first | exact trivial | exact rfl | refine And.intro ?_ ?_)
  · (repeat' first | exact trivial | exact rfl | refine And.intro ?_ ?_)
  intro _; refine ⟨fun g => ?_, fun g => ?_⟩
  · have hN : ¬ (VB bf bh kp ∧ VA s) := fun h => by
      have g : (LE bf bh kp s != 0) = true := g
      unfold LE at g; rw [if_pos h] at g; exact absurd g (by decide)
    have x1 : FT bf bh kp s = [] := by unfold FT; rw [if_neg hN]
    intro _
    refine ⟨[(1, none)], .tup [.grw 1 0, .int .i64 (LE bf bh kp s)], ⟨2, 1, [(1, .arr [.str] .grow (.recs []))]⟩, rfl, rfl, rfl, rfl, ?_, ?_, ?_, ?_⟩
    · (repeat' first | exact trivial | exact rfl | refine And.intro ?_ ?_)
    · (repeat' first | exact trivial | exact rfl | refine And.intro ?_ ?_)
    · rw [x1]; rfl
    · rw [x1]
  have hY : VB bf bh kp ∧ VA s := by
    refine Decidable.byContradiction fun h => ?_
    have g : (LE bf bh kp s != 0) = false := g
    unfold LE at g; rw [if_neg h] at g; exact absurd g (by decide)
  have hVA := hY.2
  have hl2 := hVA.1
  have xE : LE bf bh kp s = 0 := by unfold LE; rw [if_pos hY]
  have xS : LS bf bh kp s = lst bf bh kp s s.length := by unfold LS; rw [if_pos hY]
  have xF : FT bf bh kp s = PTi s (LS bf bh kp s) (LS bf bh kp s).length ++ opt (pt (seg s (fri (LS bf bh kp s) (LS bf bh kp s).length) s.length) false) := by
    unfold FT; rw [if_pos hY, xS]; rfl
  have hLl : (LS bf bh kp s).length ≤ s.length := by rw [xS]; exact lst_len _ _ _ _ _
  have hfb : ∀ i, i ≤ (LS bf bh kp s).length → 0 ≤ fri (LS bf bh kp s) i ∧ fri (LS bf bh kp s) i ≤ s.length ∧ (i < (LS bf bh kp s).length → fri (LS bf bh kp s) i ≤ cI ((LS bf bh kp s).getD i []) 0) := by
    rw [xS]; exact fri_bd s.length
  have hab : ∀ i, i < (LS bf bh kp s).length → cI ((LS bf bh kp s).getD i []) 0 ≤ s.length := fun i hi => by
    rw [xS] at hi ⊢
    obtain ⟨a, a1, a2, a3, a4⟩ := lst_row (bf := bf) (bh := bh) (kp := kp) (s := s) s.length i hi
    rw [a4]; show (a : Int) ≤ _; omega
  -- the last round's list, or the one before a round
  let QT : Nat → LD := fun i => if i ≤ (LS bf bh kp s).length then PTi s (LS bf bh kp s) i else FT bf bh kp s
  let QF : Nat → Int := fun i => if i ≤ (LS bf bh kp s).length then fri (LS bf bh kp s) i else s.length
  have hQl : ∀ i, i ≤ (LS bf bh kp s).length + 1 → (QT i).length ≤ 3000 := fun i hi => by
    show (if i ≤ (LS bf bh kp s).length then PTi s (LS bf bh kp s) i else FT bf bh kp s).length ≤ 3000
    split
    · have := PTi_len s (LS bf bh kp s) i; omega
    · rw [xF, List.length_append]
      have := PTi_len s (LS bf bh kp s) (LS bf bh kp s).length
      have := opt_len (pt (seg s (fri (LS bf bh kp s) (LS bf bh kp s).length) s.length) false)
      omega
  intro _
  refine loop2 tt_ok [10, 8, 9] [3] 4 (fun i : { i : Nat // i ≤ (LS bf bh kp s).length + 1 } => [(10, .int .i64 (i.1 : Nat)), (8, .grw 3 (QT i.1).length), (9, .int .i64 (QF i.1))]) (fun i => [(3, .arr [.str] .grow (.recs (QT i.1)))]) (fun i => (LS bf bh kp s).length + 2 - i.1) ⟨0, by omega⟩ ?_
  have q0 : QT 0 = [] := by show (if 0 ≤ (LS bf bh kp s).length then PTi s (LS bf bh kp s) 0 else FT bf bh kp s) = []; rw [if_pos (Nat.zero_le _)]; rfl
  have q1 : QF 0 = 0 := by show (if 0 ≤ (LS bf bh kp s).length then fri (LS bf bh kp s) 0 else (s.length : Int)) = 0; rw [if_pos (Nat.zero_le _)]; rfl
  intro _
  refine ⟨⟨th [(3, none)] 4, rfl, rfl, rfl, rfl, rfl, rfl, ?_, ?_⟩, ?_⟩
  · (repeat' first | exact trivial | exact rfl | refine And.intro ?_ ?_)
  · (repeat' first | exact trivial | exact rfl | refine And.intro ?_ ?_)
  intro ⟨i, hi⟩
  have hql := hQl i hi
  intro _; refine ⟨fun g => ?_, fun g => ?_⟩
  rotate_left
  · have g := of_decide_eq_false (show decide ((i : Int) ≤ ((LS bf bh kp s).length : Int)) = false from g)
    have e : QT i = FT bf bh kp s := if_neg (by omega)
    intro _
    refine ⟨[(1, some 3)], .tup [.grw 1 (QT i).length, .int .i64 0], ⟨2, 1, [(1, .arr [.str] .grow (.recs (QT i)))]⟩, rfl, rfl, rfl, rfl, ?_, ?_, ?_, ?_⟩
    · (repeat' first | exact trivial | exact rfl | refine And.intro ?_ ?_)
    · (repeat' first | exact trivial | exact rfl | refine And.intro ?_ ?_)
    · rw [e, xE]
    · rw [e]
  have g := of_decide_eq_true (show decide ((i : Int) ≤ ((LS bf bh kp s).length : Int)) = true from g)
  have hil : i ≤ (LS bf bh kp s).length := by omega
  have eF : QF i = fri (LS bf bh kp s) i := if_pos hil
  have eT : QT i = PTi s (LS bf bh kp s) i := if_pos hil
  obtain ⟨f0, f1, f2⟩ := hfb i hil
  intro _; refine ⟨fun g => ?_, fun g => ?_⟩
  · have g2 := of_decide_eq_true (show decide ((i : Int) < ((LS bf bh kp s).length : Int)) = true from g)
    have hi2 : i < (LS bf bh kp s).length := by omega
    have f3 := f2 hi2
    have f4 := hab i hi2
    have nT : QT (i + 1) = QT i ++ opt (pt (seg s (QF i) (cI ((LS bf bh kp s).getD (i : Int).toNat []) 0)) (cB ((LS bf bh kp s).getD (i : Int).toNat []) 1)) := by
      rw [eT, eF]; exact if_pos (by omega)
    have nF : QF (i + 1) = cI ((LS bf bh kp s).getD (i : Int).toNat []) 0 := if_pos (by omega)
    intro _; refine ⟨show 0 ≤ (i : Int) ∧ (i : Int) < ((LS bf bh kp s).length : Int) by omega, ?_⟩
    intro _; refine ⟨show (i : Int).toNat < (LS bf bh kp s).length by omega, ?_⟩
    intro _; refine ⟨show 0 ≤ (i : Int) ∧ (i : Int) < ((LS bf bh kp s).length : Int) by omega, ?_⟩
    intro _; refine ⟨show (i : Int).toNat < (LS bf bh kp s).length by omega, ?_⟩
    intro _
    refine call_pure [] (part_ok s (QF i) (cI ((LS bf bh kp s).getD (i : Int).toNat []) 0) (cB ((LS bf bh kp s).getD (i : Int).toNat []) 1) hVA (by rw [eF]; exact f0) (by rw [eF]; exact f3) f4) rfl rfl rfl ?_ ?_ ?_
    · (repeat' first | exact trivial | exact rfl | refine And.intro ?_ ?_)
    · (repeat' first | exact trivial | exact rfl | refine And.intro ?_ ?_)
    intro v hv _
    subst hv
    intro _; refine ⟨fun g => ?_, fun g => ?_⟩
    · have gp : pt (seg s (QF i) (cI ((LS bf bh kp s).getD (i : Int).toNat []) 0)) (cB ((LS bf bh kp s).getD (i : Int).toNat []) 1) ≠ [] := bne_iff_ne.1 (show (pt (seg s (QF i) (cI ((LS bf bh kp s).getD (i : Int).toNat []) 0)) (cB ((LS bf bh kp s).getD (i : Int).toNat []) 1) != []) = true from g)
      rw [opt_one gp] at nT
      intro _; refine ⟨rfl, ?_⟩
      intro _; refine ⟨fun g3 => by simp at g3, fun _ => ?_⟩
      refine ⟨⟨rfl, show (QT i).length + 1 ≤ 4611686018427387904 by omega, show ((QT i).length + 1) * 16 ≤ 140737488355328 by omega⟩, ?_⟩
      refine ⟨⟨i + 1, by omega⟩, by simp only []; omega, th [(3, some 5)] 4, rfl, rfl, rfl, rfl, rfl, rfl, ?_, ?_⟩
      · (repeat' first | exact trivial | exact rfl | refine And.intro ?_ ?_)
        · exact (wrap_nat i (by omega)).symm
        · rw [nT, List.length_append]; (repeat' first | exact trivial | exact rfl | refine And.intro ?_ ?_)
        · exact nF
      · (repeat' first | exact trivial | exact rfl | refine And.intro ?_ ?_)
        rw [nT]; (repeat' first | exact trivial | exact rfl | refine And.intro ?_ ?_)
    have gp : pt (seg s (QF i) (cI ((LS bf bh kp s).getD (i : Int).toNat []) 0)) (cB ((LS bf bh kp s).getD (i : Int).toNat []) 1) = [] := by
      have := show (pt (seg s (QF i) (cI ((LS bf bh kp s).getD (i : Int).toNat []) 0)) (cB ((LS bf bh kp s).getD (i : Int).toNat []) 1) != []) = false from g
      rwa [bne_eq_false_iff_eq] at this
    rw [opt_nil gp, List.append_nil] at nT
    refine ⟨⟨i + 1, by omega⟩, by simp only []; omega, th [] 4, rfl, rfl, rfl, rfl, rfl, rfl, ?_, ?_⟩
    · (repeat' first | exact trivial | exact rfl | refine And.intro ?_ ?_)
      · exact (wrap_nat i (by omega)).symm
      · rw [nT]; (repeat' first | exact trivial | exact rfl | refine And.intro ?_ ?_)
      · exact nF
    · (repeat' first | exact trivial | exact rfl | refine And.intro ?_ ?_)
      rw [nT]; (repeat' first | exact trivial | exact rfl | refine And.intro ?_ ?_)
  have g2 := of_decide_eq_false (show decide ((i : Int) < ((LS bf bh kp s).length : Int)) = false from g)
  have hie : i = (LS bf bh kp s).length := by omega
  have nT : QT (i + 1) = QT i ++ opt (pt (seg s (QF i) (s.length : Int)) false) := by
    have e : QT (i + 1) = FT bf bh kp s := if_neg (by omega)
    rw [e, eT, eF, hie]; exact xF
  have nF : QF (i + 1) = (s.length : Int) := if_neg (by omega)
  intro _
  refine call_pure [] (part_ok s (QF i) (s.length : Int) false hVA (by rw [eF]; exact f0) (by rw [eF]; exact f1) (Int.le_refl _)) rfl rfl rfl ?_ ?_ ?_
  · (repeat' first | exact trivial | exact rfl | refine And.intro ?_ ?_)
  · (repeat' first | exact trivial | exact rfl | refine And.intro ?_ ?_)
  intro v hv _
  subst hv
  intro _; refine ⟨fun g => ?_, fun g => ?_⟩
  · have gp : pt (seg s (QF i) (s.length : Int)) false ≠ [] := bne_iff_ne.1 (show (pt (seg s (QF i) (s.length : Int)) false != []) = true from g)
    rw [opt_one gp] at nT
    intro _; refine ⟨rfl, ?_⟩
    intro _; refine ⟨fun g3 => by simp at g3, fun _ => ?_⟩
    refine ⟨⟨rfl, show (QT i).length + 1 ≤ 4611686018427387904 by omega, show ((QT i).length + 1) * 16 ≤ 140737488355328 by omega⟩, ?_⟩
    refine ⟨⟨i + 1, by omega⟩, by simp only []; omega, th [(3, some 5)] 4, rfl, rfl, rfl, rfl, rfl, rfl, ?_, ?_⟩
    · (repeat' first | exact trivial | exact rfl | refine And.intro ?_ ?_)
      · exact (wrap_nat i (by omega)).symm
      · rw [nT, List.length_append]; (repeat' first | exact trivial | exact rfl | refine And.intro ?_ ?_)
      · exact nF
    · (repeat' first | exact trivial | exact rfl | refine And.intro ?_ ?_)
      rw [nT]; (repeat' first | exact trivial | exact rfl | refine And.intro ?_ ?_)
  have gp : pt (seg s (QF i) (s.length : Int)) false = [] := by
    have := show (pt (seg s (QF i) (s.length : Int)) false != []) = false from g
    rwa [bne_eq_false_iff_eq] at this
  rw [opt_nil gp, List.append_nil] at nT
  refine ⟨⟨i + 1, by omega⟩, by simp only []; omega, th [] 4, rfl, rfl, rfl, rfl, rfl, rfl, ?_, ?_⟩
  · (repeat' first | exact trivial | exact rfl | refine And.intro ?_ ?_)
    · exact (wrap_nat i (by omega)).symm
    · rw [nT]; (repeat' first | exact trivial | exact rfl | refine And.intro ?_ ?_)
    · exact nF
  · (repeat' first | exact trivial | exact rfl | refine And.intro ?_ ?_)
    rw [nT]; (repeat' first | exact trivial | exact rfl | refine And.intro ?_ ?_)
set_option maxRecDepth 100000
set_option maxHeartbeats 4000000 in
theorem Least_ok (bf bh : Int) (kp : LD) (s : List UInt8) (hl : s.length ≤ 9223372036854775807) : SemF Try.prog 15 [.agg [.int .i64 bf, .int .i64 bh, .slc 0 1 0 kp.length], .str s] ⟨1, 1, [(0, .arr [.str] .rd (.recs kp))]⟩ (TQ8 bf bh kp s) := by
  refine SemF.ret ?_
  refine enter tt_ok Try.func15 (nt := 32) (cd := body Try.f15) rfl rfl rfl rfl ?_
  intro _
  refine call_pure [(0, some 0)] (Valid_ok bf bh kp) rfl rfl rfl ?_ ?_ ?_
  · (repeat' first | exact trivial | exact rfl | refine And.intro ?_ ?_)
  · (repeat' first | exact trivial | exact rfl | refine And.intro ?_ ?_)
  intro v hv _
  subst hv
  have noV : ¬ (VB bf bh kp ∧ VA s) → FT bf bh kp s = [] ∧ LE bf bh kp s = 1 := fun h => by
    unfold FT LE; rw [if_neg h, if_neg h]; exact ⟨rfl, rfl⟩
  intro _; refine ⟨fun g => ?_, fun g => ?_⟩
  · have g : ¬ VB bf bh kp := by
      have := show (!decide (VB bf bh kp)) = true from g
      rw [Bool.not_eq_true'] at this; exact of_decide_eq_false this
    obtain ⟨x1, x2⟩ := noV (fun h => g h.1)
    intro _
    refine ⟨[(1, none)], .tup [.grw 1 0, .int .i64 1], ⟨2, 1, [(1, .arr [.str] .grow (.recs []))]⟩, rfl, rfl, rfl, rfl, ?_, ?_, ?_, ?_⟩
    · (repeat' first | exact trivial | exact rfl | refine And.intro ?_ ?_)
    · (repeat' first | exact trivial | exact rfl | refine And.intro ?_ ?_)
    · rw [x1, x2]; rfl
    · rw [x1]
  have hVB : VB bf bh kp := by
    have := show (!decide (VB bf bh kp)) = false from g
    rw [Bool.not_eq_false'] at this; exact of_decide_eq_true this
  intro _
  refine call_pure [] (valid_ok s hl) rfl rfl rfl ?_ ?_ ?_
  · (repeat' first | exact trivial | exact rfl | refine And.intro ?_ ?_)
  · (repeat' first | exact trivial | exact rfl | refine And.intro ?_ ?_)
  intro v hv _
  subst hv
  intro _; refine ⟨fun g => ?_, fun g => ?_⟩
  · have g : ¬ VA s := by
      have := show (!decide (VA s)) = true from g
      rw [Bool.not_eq_true'] at this; exact of_decide_eq_false this
    obtain ⟨x1, x2⟩ := noV (fun h => g h.2)
    intro _
    refine ⟨[(1, none)], .tup [.grw 1 0, .int .i64 1], ⟨2, 1, [(1, .arr [.str] .grow (.recs []))]⟩, rfl, rfl, rfl, rfl, ?_, ?_, ?_, ?_⟩
    · (repeat' first | exact trivial | exact rfl | refine And.intro ?_ ?_)
    · (repeat' first | exact trivial | exact rfl | refine And.intro ?_ ?_)
    · rw [x1, x2]; rfl
    · rw [x1]
  have hVA : VA s := by
    have := show (!decide (VA s)) = false from g
    rw [Bool.not_eq_false'] at this; exact of_decide_eq_true this
  have hl2 := hVA.1
  have xS : FT bf bh kp s = PTm bf bh kp s s.length ++ opt (pt (seg s (frm bf bh kp s s.length) s.length) false) := by unfold FT; rw [if_pos ⟨hVB, hVA⟩]
  have xE : LE bf bh kp s = 0 := by unfold LE; rw [if_pos ⟨hVB, hVA⟩]
  have hk20 := hVB.2.2.1
  intro _
  refine enter tt_ok Try.func21 (nt := 6) (cd := body Try.f21) rfl rfl rfl rfl ?_
  intro _
  intro _
  refine range_ok ?_
  intro _
  refine enter tt_ok Try.func32 (nt := 131) (cd := body Try.f32) rfl rfl rfl rfl ?_
  intro _
  refine loop2 tt_ok [18] [10] 11 (fun i : { i : Nat // i ≤ kp.length } => [(18, .int .i64 (i.1 : Nat))]) (fun i => [(10, .smap [.bool] false (SM kp i.1))]) (fun i => kp.length - i.1) ⟨0, by omega⟩ ?_
  intro _
  refine ⟨⟨th [] 11, rfl, rfl, rfl, rfl, rfl, rfl, ?_, ?_⟩, ?_⟩
  · (repeat' first | exact trivial | exact rfl | refine And.intro ?_ ?_)
  · (repeat' first | exact trivial | exact rfl | refine And.intro ?_ ?_)
  intro ⟨i, hi⟩
  intro _; refine ⟨fun g => ?_, fun g => ?_⟩
  · have g := of_decide_eq_true (show decide ((i : Int) < (kp.length : Int)) = true from g)
    have ei : 0 + (i : Int).toNat = i := by omega
    intro _; refine ⟨show 0 ≤ (i : Int) ∧ (i : Int) < (kp.length : Int) by omega, ?_⟩
    intro _; refine ⟨show 0 + (i : Int).toNat < kp.length by omega, ?_⟩
    refine ⟨⟨i + 1, by omega⟩, by simp only []; omega, th [] 11, rfl, rfl, rfl, rfl, rfl, rfl, ?_, ?_⟩
    · (repeat' first | exact trivial | exact rfl | refine And.intro ?_ ?_)
      exact (wrap_nat i (by omega)).symm
    · (repeat' first | exact trivial | exact rfl | refine And.intro ?_ ?_)
      exact (show mputS (SM kp i) (kS kp i) [.b true] = mputS (SM kp i) (kS kp (0 + (i : Int).toNat)) [.b true] by rw [ei])
  have g := of_decide_eq_false (show decide ((i : Int) < (kp.length : Int)) = false from g)
  have hik : i = kp.length := by omega
  subst hik
  have hFL := mk_len (s.length + 1) (FB s)
  intro _
  refine call_new [] (letters_ok s hl2) rfl rfl rfl rfl ?_ ?_ ?_
  · (repeat' first | exact trivial | exact rfl | refine And.intro ?_ ?_)
  · (repeat' first | exact trivial | exact rfl | refine And.intro ?_ ?_)
  intro v h' hv
  obtain ⟨rfl, rfl⟩ := hv
  refine ⟨[(11, some 0)], 12, [(11, .arr [.int .i64] .own (.ints (mk (s.length + 1) (FB s))))], .grw 11 (s.length + 1), rfl, rfl, rfl, rfl, rfl, ?_, ?_, ?_⟩
  · (repeat' first | exact trivial | exact rfl | refine And.intro ?_ ?_)
  · (repeat' first | exact trivial | exact rfl | refine And.intro ?_ ?_)
  intro _
  refine loop2 tt_ok [10, 7, 9] [3, 4, 12] 13 (fun m : { m : Nat // 1 ≤ m ∧ (m ≤ s.length ∨ m = 1) } => [(10, .int .i64 (m.1 : Nat)), (7, .test (decide (BG s (m.1 - 1)))), (9, .int .i64 (BF s (m.1 - 1)))]) (fun m => [(3, .cells [.grw 12 (PTm bf bh kp s m.1).length]), (4, .cells [.int .i64 (frm bf bh kp s m.1)]), (12, .arr [.str] .grow (.recs (PTm bf bh kp s m.1)))]) (fun m => s.length + 1 - m.1) ⟨1, by omega, by omega⟩ ?_
  intro _
  refine ⟨⟨th [(12, none)] 13, rfl, rfl, rfl, rfl, rfl, rfl, ?_, ?_⟩, ?_⟩
  · (repeat' first | exact trivial | exact rfl | refine And.intro ?_ ?_)
  · (repeat' first | exact trivial | exact rfl | refine And.intro ?_ ?_)
  intro ⟨m, h1, h2⟩
  have hll := lst_len bf bh kp s m
  intro _; refine ⟨fun g => ?_, fun g => ?_⟩
  rotate_left
  · have g := of_decide_eq_false (show decide ((m : Int) < (s.length : Int)) = false from g)
    have e : frm bf bh kp s m = frm bf bh kp s s.length ∧ PTm bf bh kp s m = PTm bf bh kp s s.length := by
      rcases h2 with h2 | h2
      · rw [show m = s.length by omega]; exact ⟨rfl, rfl⟩
      · subst h2
        rcases Nat.eq_zero_or_pos s.length with q | q
        · rw [q]; exact frm_no (fun h => by omega)
        · rw [show s.length = 1 by omega]; exact ⟨rfl, rfl⟩
    have hfr := frm_bd (bf := bf) (bh := bh) (kp := kp) (s := s) s.length
    have hpl := PTm_len (bf := bf) (bh := bh) (kp := kp) (s := s) m
    rw [← e.1] at hfr
    rw [← e.2, ← e.1] at xS
    intro _
    intro _
    refine enter tt_ok Try.func25 (nt := 33) (cd := body Try.f25) rfl rfl rfl rfl ?_
    intro _; refine ⟨show 0 ≤ frm bf bh kp s m ∧ frm bf bh kp s m ≤ (s.length : Int) ∧ (s.length : Int) ≤ (s.length : Int) by omega, ?_⟩
    intro _
    refine call_pure [] (Shw_ok (seg s (frm bf bh kp s m) s.length) (VA_seg hVA _ _)) rfl rfl rfl ?_ ?_ ?_
    · (repeat' first | exact trivial | exact rfl | refine And.intro ?_ ?_)
    · (repeat' first | exact trivial | exact rfl | refine And.intro ?_ ?_)
    intro v hv _
    subst hv
    intro _
    refine call_pure [] (Trm_ok (sh (seg s (frm bf bh kp s m) s.length)) (VA_sh (VA_seg hVA _ _))) rfl rfl rfl ?_ ?_ ?_
    · (repeat' first | exact trivial | exact rfl | refine And.intro ?_ ?_)
    · (repeat' first | exact trivial | exact rfl | refine And.intro ?_ ?_)
    intro v hv _
    subst hv
    have ep : pt (seg s (frm bf bh kp s m) s.length) false = tr (sh (seg s (frm bf bh kp s m) s.length)) := by unfold pt; rw [if_neg (by decide), List.append_nil]
    rw [ep] at xS
    intro _; refine ⟨fun g => ?_, fun g => ?_⟩
    · have gp : tr (sh (seg s (frm bf bh kp s m) s.length)) ≠ [] := bne_iff_ne.1 (show (tr (sh (seg s (frm bf bh kp s m) s.length)) != []) = true from g)
      rw [opt_one gp] at xS
      intro _; refine ⟨rfl, ?_⟩
      intro _; refine ⟨fun g3 => by simp at g3, fun _ => ?_⟩
      refine ⟨⟨rfl, show (PTm bf bh kp s m).length + 1 ≤ 4611686018427387904 by omega, show ((PTm bf bh kp s m).length + 1) * 16 ≤ 140737488355328 by omega⟩, ?_⟩
      intro _
      intro _
      refine ⟨[(1, some 15)], .tup [.grw 1 ((PTm bf bh kp s m).length + 1), .int .i64 0], ⟨2, 1, [(1, .arr [.str] .grow (.recs (PTm bf bh kp s m ++ [[.s (tr (sh (seg s (frm bf bh kp s m) s.length)))]])))]⟩, rfl, rfl, rfl, rfl, ?_, ?_, ?_, ?_⟩
      · (repeat' first | exact trivial | exact rfl | refine And.intro ?_ ?_)
      · (repeat' first | exact trivial | exact rfl | refine And.intro ?_ ?_)
      · rw [xS, xE, List.length_append]; rfl
      · rw [xS]
    have gp : tr (sh (seg s (frm bf bh kp s m) s.length)) = [] := by
      have := show (tr (sh (seg s (frm bf bh kp s m) s.length)) != []) = false from g
      rwa [bne_eq_false_iff_eq] at this
    rw [opt_nil gp, List.append_nil] at xS
    intro _
    intro _
    refine ⟨[(1, some 12)], .tup [.grw 1 (PTm bf bh kp s m).length, .int .i64 0], ⟨2, 1, [(1, .arr [.str] .grow (.recs (PTm bf bh kp s m)))]⟩, rfl, rfl, rfl, rfl, ?_, ?_, ?_, ?_⟩
    · (repeat' first | exact trivial | exact rfl | refine And.intro ?_ ?_)
    · (repeat' first | exact trivial | exact rfl | refine And.intro ?_ ?_)
    · rw [xS, xE]
    · rw [xS]
  have g := of_decide_eq_true (show decide ((m : Int) < (s.length : Int)) = true from g)
  have hms : m < s.length := by omega
  have hfr := frm_bd (bf := bf) (bh := bh) (kp := kp) (s := s) m
  have hpl := PTm_len (bf := bf) (bh := bh) (kp := kp) (s := s) m
  have hTl := tsh_len (VA_seg hVA (frm bf bh kp s m) m)
  have e1 : IntKind.i64.wrap ((m : Int) - 1) = ((m - 1 : Nat) : Int) := by rw [wrapS _ ⟨by omega, by omega⟩]; omega
  have e1' : (IntKind.i64.wrap ((m : Int) - 1)).toNat = m - 1 := by rw [e1]; omega
  have hbf := BF_bd s (m - 1)
  have eBF : BF s (m + 1 - 1) = fo (BF s (m - 1)) (by' s (IntKind.i64.wrap ((m : Int) - 1)).toNat) := by
    rw [e1', Nat.add_sub_cancel]
    obtain ⟨q, rfl⟩ : ∃ q, m = q + 1 := ⟨m - 1, by omega⟩
    rfl
  intro _; refine ⟨by rw [e1]; omega, ?_⟩
  intro _; refine ⟨fun g => ?_, fun g => ?_⟩
  · have g1 : by' s (m - 1) = 32 := by
      have := eq_of_beq (show (by' s (IntKind.i64.wrap ((m : Int) - 1)).toNat == 32) = true from g)
      rwa [e1'] at this
    have hHY : decide (HY s m) = false := decide_eq_false (by unfold HY; omega)
    intro _; refine ⟨fun g => ?_, fun g => ?_⟩
    · have g2 := of_decide_eq_true (show decide (BG s (m - 1)) = true from g)
      intro _; refine ⟨show 0 ≤ (m : Int) ∧ (m : Int) < (s.length : Int) by omega, ?_⟩
      intro _; refine ⟨fun g => ?_, fun g => ?_⟩
      · have hB := of_decide_eq_true (show decide (BG s (m - 1)) = true from g)
        intro _; refine ⟨by rw [e1]; omega, ?_⟩
        intro _
        refine call_pure [] (follow_ok (BF s (m - 1)) (by' s (IntKind.i64.wrap ((m : Int) - 1)).toNat) (by_range _ _) (by omega)) rfl rfl rfl ?_ ?_ ?_
        · (repeat' first | exact trivial | exact rfl | refine And.intro ?_ ?_)
        · (repeat' first | exact trivial | exact rfl | refine And.intro ?_ ?_)
        intro v hv _
        subst hv
        intro _; refine ⟨fun g => ?_, fun g => ?_⟩
        · have hPL : PL bf bh kp s m := (PL32 g1).2 ⟨g2, bne_iff_ne.1 (show (by' s (m : Int).toNat != 32) = true from g)⟩
          have ls := frm_yes (bf := bf) (bh := bh) (kp := kp) (s := s) (m := m) ⟨h1, hPL⟩
          rw [hHY] at ls
          intro _
          refine yield_ok tt_ok ?_
          intro _
          refine enter tt_ok Try.func25 (nt := 33) (cd := body Try.f25) rfl rfl rfl rfl ?_
          intro _; refine ⟨show 0 ≤ frm bf bh kp s m ∧ frm bf bh kp s m ≤ (m : Int) ∧ (m : Int) ≤ (s.length : Int) by omega, ?_⟩
          intro _
          refine call_pure [] (Shw_ok (seg s (frm bf bh kp s m) (m : Int)) (VA_seg hVA _ _)) rfl rfl rfl ?_ ?_ ?_
          · (repeat' first | exact trivial | exact rfl | refine And.intro ?_ ?_)
          · (repeat' first | exact trivial | exact rfl | refine And.intro ?_ ?_)
          intro v hv _
          subst hv
          intro _
          refine call_pure [] (Trm_ok (sh (seg s (frm bf bh kp s m) (m : Int))) (VA_sh (VA_seg hVA _ _))) rfl rfl rfl ?_ ?_ ?_
          · (repeat' first | exact trivial | exact rfl | refine And.intro ?_ ?_)
          · (repeat' first | exact trivial | exact rfl | refine And.intro ?_ ?_)
          intro v hv _
          subst hv
          have ep : pt (seg s (frm bf bh kp s m) (m : Int)) false = (tr (sh (seg s (frm bf bh kp s m) (m : Int)))) := by unfold pt; rw [if_neg (by decide), List.append_nil]
          rw [ep] at ls
          intro _; refine ⟨fun g => ?_, fun g => ?_⟩
          · have gp : (tr (sh (seg s (frm bf bh kp s m) (m : Int)))) ≠ [] := bne_iff_ne.1 (show ((tr (sh (seg s (frm bf bh kp s m) (m : Int)))) != []) = true from g)
            rw [opt_one gp] at ls
            intro _; refine ⟨rfl, ?_⟩
            intro _; refine ⟨fun g3 => by simp at g3, fun _ => ?_⟩
            refine ⟨⟨rfl, show (PTm bf bh kp s m).length + 1 ≤ 4611686018427387904 by omega, show ((PTm bf bh kp s m).length + 1) * 16 ≤ 140737488355328 by omega⟩, ?_⟩
            intro _
            intro _
            refine ⟨⟨m + 1, by omega, by omega⟩, by simp only []; omega, th [(12, some 17)] 13, rfl, rfl, rfl, rfl, rfl, rfl, ?_, ?_⟩
            · (repeat' first | exact trivial | exact rfl | refine And.intro ?_ ?_)
              · exact (wrap_nat m (by omega)).symm
              · exact (decide_eq_true (BG_of m hB))
              · exact eBF
            · (repeat' first | exact trivial | exact rfl | refine And.intro ?_ ?_)
              all_goals (first | (rw [ls.1]; (repeat' first | exact trivial | exact rfl | refine And.intro ?_ ?_); done) | (rw [ls.2, List.length_append]; (repeat' first | exact trivial | exact rfl | refine And.intro ?_ ?_); done) | (rw [ls.2]; (repeat' first | exact trivial | exact rfl | refine And.intro ?_ ?_); done))
          have gp : (tr (sh (seg s (frm bf bh kp s m) (m : Int)))) = [] := by
            have := show ((tr (sh (seg s (frm bf bh kp s m) (m : Int)))) != []) = false from g
            rwa [bne_eq_false_iff_eq] at this
          rw [opt_nil gp, List.append_nil] at ls
          intro _
          intro _
          refine ⟨⟨m + 1, by omega, by omega⟩, by simp only []; omega, th [] 13, rfl, rfl, rfl, rfl, rfl, rfl, ?_, ?_⟩
          · (repeat' first | exact trivial | exact rfl | refine And.intro ?_ ?_)
            · exact (wrap_nat m (by omega)).symm
            · exact (decide_eq_true (BG_of m hB))
            · exact eBF
          · (repeat' first | exact trivial | exact rfl | refine And.intro ?_ ?_)
            all_goals (first | (rw [ls.1]; (repeat' first | exact trivial | exact rfl | refine And.intro ?_ ?_); done) | (rw [ls.2]; (repeat' first | exact trivial | exact rfl | refine And.intro ?_ ?_); done))
        have hPL : ¬ PL bf bh kp s m := fun q => ((PL32 g1).1 q).2 (bne_eq_false_iff_eq.1 (show (by' s (m : Int).toNat != 32) = false from g))
        have ls := frm_no (bf := bf) (bh := bh) (kp := kp) (s := s) (m := m) (fun q => hPL q.2)
        refine ⟨⟨m + 1, by omega, by omega⟩, by simp only []; omega, th [] 13, rfl, rfl, rfl, rfl, rfl, rfl, ?_, ?_⟩
        · (repeat' first | exact trivial | exact rfl | refine And.intro ?_ ?_)
          · exact (wrap_nat m (by omega)).symm
          · exact (decide_eq_true (BG_of m hB))
          · exact eBF
        · (repeat' first | exact trivial | exact rfl | refine And.intro ?_ ?_)
          all_goals (first | (rw [ls.1]; (repeat' first | exact trivial | exact rfl | refine And.intro ?_ ?_); done) | (rw [ls.2]; (repeat' first | exact trivial | exact rfl | refine And.intro ?_ ?_); done))
      have hB := of_decide_eq_false (show decide (BG s (m - 1)) = false from g)
      have hBt := BG_no m hB h1 e1'
      intro _; refine ⟨by rw [e1]; omega, ?_⟩
      intro _; refine ⟨by rw [e1]; omega, ?_⟩
      intro _
      refine call_pure [] (follow_ok (BF s (m - 1)) (by' s (IntKind.i64.wrap ((m : Int) - 1)).toNat) (by_range _ _) (by omega)) rfl rfl rfl ?_ ?_ ?_
      · (repeat' first | exact trivial | exact rfl | refine And.intro ?_ ?_)
      · (repeat' first | exact trivial | exact rfl | refine And.intro ?_ ?_)
      intro v hv _
      subst hv
      intro _; refine ⟨fun g => ?_, fun g => ?_⟩
      · have hPL : PL bf bh kp s m := (PL32 g1).2 ⟨g2, bne_iff_ne.1 (show (by' s (m : Int).toNat != 32) = true from g)⟩
        have ls := frm_yes (bf := bf) (bh := bh) (kp := kp) (s := s) (m := m) ⟨h1, hPL⟩
        rw [hHY] at ls
        intro _
        refine yield_ok tt_ok ?_
        intro _
        refine enter tt_ok Try.func25 (nt := 33) (cd := body Try.f25) rfl rfl rfl rfl ?_
        intro _; refine ⟨show 0 ≤ frm bf bh kp s m ∧ frm bf bh kp s m ≤ (m : Int) ∧ (m : Int) ≤ (s.length : Int) by omega, ?_⟩
        intro _
        refine call_pure [] (Shw_ok (seg s (frm bf bh kp s m) (m : Int)) (VA_seg hVA _ _)) rfl rfl rfl ?_ ?_ ?_
        · (repeat' first | exact trivial | exact rfl | refine And.intro ?_ ?_)
        · (repeat' first | exact trivial | exact rfl | refine And.intro ?_ ?_)
        intro v hv _
        subst hv
        intro _
        refine call_pure [] (Trm_ok (sh (seg s (frm bf bh kp s m) (m : Int))) (VA_sh (VA_seg hVA _ _))) rfl rfl rfl ?_ ?_ ?_
        · (repeat' first | exact trivial | exact rfl | refine And.intro ?_ ?_)
        · (repeat' first | exact trivial | exact rfl | refine And.intro ?_ ?_)
        intro v hv _
        subst hv
        have ep : pt (seg s (frm bf bh kp s m) (m : Int)) false = (tr (sh (seg s (frm bf bh kp s m) (m : Int)))) := by unfold pt; rw [if_neg (by decide), List.append_nil]
        rw [ep] at ls
        intro _; refine ⟨fun g => ?_, fun g => ?_⟩
        · have gp : (tr (sh (seg s (frm bf bh kp s m) (m : Int)))) ≠ [] := bne_iff_ne.1 (show ((tr (sh (seg s (frm bf bh kp s m) (m : Int)))) != []) = true from g)
          rw [opt_one gp] at ls
          intro _; refine ⟨rfl, ?_⟩
          intro _; refine ⟨fun g3 => by simp at g3, fun _ => ?_⟩
          refine ⟨⟨rfl, show (PTm bf bh kp s m).length + 1 ≤ 4611686018427387904 by omega, show ((PTm bf bh kp s m).length + 1) * 16 ≤ 140737488355328 by omega⟩, ?_⟩
          intro _
          intro _
          refine ⟨⟨m + 1, by omega, by omega⟩, by simp only []; omega, th [(12, some 17)] 13, rfl, rfl, rfl, rfl, rfl, rfl, ?_, ?_⟩
          · (repeat' first | exact trivial | exact rfl | refine And.intro ?_ ?_)
            · exact (wrap_nat m (by omega)).symm
            · exact hBt
            · exact eBF
          · (repeat' first | exact trivial | exact rfl | refine And.intro ?_ ?_)
            all_goals (first | (rw [ls.1]; (repeat' first | exact trivial | exact rfl | refine And.intro ?_ ?_); done) | (rw [ls.2, List.length_append]; (repeat' first | exact trivial | exact rfl | refine And.intro ?_ ?_); done) | (rw [ls.2]; (repeat' first | exact trivial | exact rfl | refine And.intro ?_ ?_); done))
        have gp : (tr (sh (seg s (frm bf bh kp s m) (m : Int)))) = [] := by
          have := show ((tr (sh (seg s (frm bf bh kp s m) (m : Int)))) != []) = false from g
          rwa [bne_eq_false_iff_eq] at this
        rw [opt_nil gp, List.append_nil] at ls
        intro _
        intro _
        refine ⟨⟨m + 1, by omega, by omega⟩, by simp only []; omega, th [] 13, rfl, rfl, rfl, rfl, rfl, rfl, ?_, ?_⟩
        · (repeat' first | exact trivial | exact rfl | refine And.intro ?_ ?_)
          · exact (wrap_nat m (by omega)).symm
          · exact hBt
          · exact eBF
        · (repeat' first | exact trivial | exact rfl | refine And.intro ?_ ?_)
          all_goals (first | (rw [ls.1]; (repeat' first | exact trivial | exact rfl | refine And.intro ?_ ?_); done) | (rw [ls.2]; (repeat' first | exact trivial | exact rfl | refine And.intro ?_ ?_); done))
      have hPL : ¬ PL bf bh kp s m := fun q => ((PL32 g1).1 q).2 (bne_eq_false_iff_eq.1 (show (by' s (m : Int).toNat != 32) = false from g))
      have ls := frm_no (bf := bf) (bh := bh) (kp := kp) (s := s) (m := m) (fun q => hPL q.2)
      refine ⟨⟨m + 1, by omega, by omega⟩, by simp only []; omega, th [] 13, rfl, rfl, rfl, rfl, rfl, rfl, ?_, ?_⟩
      · (repeat' first | exact trivial | exact rfl | refine And.intro ?_ ?_)
        · exact (wrap_nat m (by omega)).symm
        · exact hBt
        · exact eBF
      · (repeat' first | exact trivial | exact rfl | refine And.intro ?_ ?_)
        all_goals (first | (rw [ls.1]; (repeat' first | exact trivial | exact rfl | refine And.intro ?_ ?_); done) | (rw [ls.2]; (repeat' first | exact trivial | exact rfl | refine And.intro ?_ ?_); done))
    have g2 := of_decide_eq_false (show decide (BG s (m - 1)) = false from g)
    have hPL : ¬ PL bf bh kp s m := fun q => g2 ((PL32 g1).1 q).1
    intro _; refine ⟨fun g => ?_, fun g => ?_⟩
    · have hB := of_decide_eq_true (show decide (BG s (m - 1)) = true from g)
      intro _; refine ⟨by rw [e1]; omega, ?_⟩
      intro _
      refine call_pure [] (follow_ok (BF s (m - 1)) (by' s (IntKind.i64.wrap ((m : Int) - 1)).toNat) (by_range _ _) (by omega)) rfl rfl rfl ?_ ?_ ?_
      · (repeat' first | exact trivial | exact rfl | refine And.intro ?_ ?_)
      · (repeat' first | exact trivial | exact rfl | refine And.intro ?_ ?_)
      intro v hv _
      subst hv
      have ls := frm_no (bf := bf) (bh := bh) (kp := kp) (s := s) (m := m) (fun q => hPL q.2)
      refine ⟨⟨m + 1, by omega, by omega⟩, by simp only []; omega, th [] 13, rfl, rfl, rfl, rfl, rfl, rfl, ?_, ?_⟩
      · (repeat' first | exact trivial | exact rfl | refine And.intro ?_ ?_)
        · exact (wrap_nat m (by omega)).symm
        · exact (decide_eq_true (BG_of m hB))
        · exact eBF
      · (repeat' first | exact trivial | exact rfl | refine And.intro ?_ ?_)
        all_goals (first | (rw [ls.1]; (repeat' first | exact trivial | exact rfl | refine And.intro ?_ ?_); done) | (rw [ls.2]; (repeat' first | exact trivial | exact rfl | refine And.intro ?_ ?_); done))
    have hB := of_decide_eq_false (show decide (BG s (m - 1)) = false from g)
    have hBt := BG_no m hB h1 e1'
    intro _; refine ⟨by rw [e1]; omega, ?_⟩
    intro _; refine ⟨by rw [e1]; omega, ?_⟩
    intro _
    refine call_pure [] (follow_ok (BF s (m - 1)) (by' s (IntKind.i64.wrap ((m : Int) - 1)).toNat) (by_range _ _) (by omega)) rfl rfl rfl ?_ ?_ ?_
    · (repeat' first | exact trivial | exact rfl | refine And.intro ?_ ?_)
    · (repeat' first | exact trivial | exact rfl | refine And.intro ?_ ?_)
    intro v hv _
    subst hv
    have ls := frm_no (bf := bf) (bh := bh) (kp := kp) (s := s) (m := m) (fun q => hPL q.2)
    refine ⟨⟨m + 1, by omega, by omega⟩, by simp only []; omega, th [] 13, rfl, rfl, rfl, rfl, rfl, rfl, ?_, ?_⟩
    · (repeat' first | exact trivial | exact rfl | refine And.intro ?_ ?_)
      · exact (wrap_nat m (by omega)).symm
      · exact hBt
      · exact eBF
    · (repeat' first | exact trivial | exact rfl | refine And.intro ?_ ?_)
      all_goals (first | (rw [ls.1]; (repeat' first | exact trivial | exact rfl | refine And.intro ?_ ?_); done) | (rw [ls.2]; (repeat' first | exact trivial | exact rfl | refine And.intro ?_ ?_); done))
  have g1 : ¬ by' s (m - 1) = 32 := by
    have := beq_eq_false_iff_ne.1 (show (by' s (IntKind.i64.wrap ((m : Int) - 1)).toNat == 32) = false from g)
    rwa [e1'] at this
  intro _; refine ⟨fun g => ?_, fun g => ?_⟩
  · have g2 : by' s (m - 1) = 45 := by
      have := eq_of_beq (show (by' s (IntKind.i64.wrap ((m : Int) - 1)).toNat == 45) = true from g)
      rwa [e1'] at this
    have hHY : decide (HY s m) = false := decide_eq_false (by unfold HY; omega)
    intro _; refine ⟨fun g => ?_, fun g => ?_⟩
    rotate_left
    · have g3 := of_decide_eq_false (show decide ((m : Int) > 1) = false from g)
      have hPL : ¬ PL bf bh kp s m := fun q => by have := ((PL45 g2).1 q).1; omega
      intro _; refine ⟨fun g => ?_, fun g => ?_⟩
      · have hB := of_decide_eq_true (show decide (BG s (m - 1)) = true from g)
        intro _; refine ⟨by rw [e1]; omega, ?_⟩
        intro _
        refine call_pure [] (follow_ok (BF s (m - 1)) (by' s (IntKind.i64.wrap ((m : Int) - 1)).toNat) (by_range _ _) (by omega)) rfl rfl rfl ?_ ?_ ?_
        · (repeat' first | exact trivial | exact rfl | refine And.intro ?_ ?_)
        · (repeat' first | exact trivial | exact rfl | refine And.intro ?_ ?_)
        intro v hv _
        subst hv
        have ls := frm_no (bf := bf) (bh := bh) (kp := kp) (s := s) (m := m) (fun q => hPL q.2)
        refine ⟨⟨m + 1, by omega, by omega⟩, by simp only []; omega, th [] 13, rfl, rfl, rfl, rfl, rfl, rfl, ?_, ?_⟩
        · (repeat' first | exact trivial | exact rfl | refine And.intro ?_ ?_)
          · exact (wrap_nat m (by omega)).symm
          · exact (decide_eq_true (BG_of m hB))
          · exact eBF
        · (repeat' first | exact trivial | exact rfl | refine And.intro ?_ ?_)
          all_goals (first | (rw [ls.1]; (repeat' first | exact trivial | exact rfl | refine And.intro ?_ ?_); done) | (rw [ls.2]; (repeat' first | exact trivial | exact rfl | refine And.intro ?_ ?_); done))
      have hB := of_decide_eq_false (show decide (BG s (m - 1)) = false from g)
      have hBt := BG_no m hB h1 e1'
      intro _; refine ⟨by rw [e1]; omega, ?_⟩
      intro _; refine ⟨by rw [e1]; omega, ?_⟩
      intro _
      refine call_pure [] (follow_ok (BF s (m - 1)) (by' s (IntKind.i64.wrap ((m : Int) - 1)).toNat) (by_range _ _) (by omega)) rfl rfl rfl ?_ ?_ ?_
      · (repeat' first | exact trivial | exact rfl | refine And.intro ?_ ?_)
      · (repeat' first | exact trivial | exact rfl | refine And.intro ?_ ?_)
      intro v hv _
      subst hv
      have ls := frm_no (bf := bf) (bh := bh) (kp := kp) (s := s) (m := m) (fun q => hPL q.2)
      refine ⟨⟨m + 1, by omega, by omega⟩, by simp only []; omega, th [] 13, rfl, rfl, rfl, rfl, rfl, rfl, ?_, ?_⟩
      · (repeat' first | exact trivial | exact rfl | refine And.intro ?_ ?_)
        · exact (wrap_nat m (by omega)).symm
        · exact hBt
        · exact eBF
      · (repeat' first | exact trivial | exact rfl | refine And.intro ?_ ?_)
        all_goals (first | (rw [ls.1]; (repeat' first | exact trivial | exact rfl | refine And.intro ?_ ?_); done) | (rw [ls.2]; (repeat' first | exact trivial | exact rfl | refine And.intro ?_ ?_); done))
    have g3 := of_decide_eq_true (show decide ((m : Int) > 1) = true from g)
    have e2 : IntKind.i64.wrap ((m : Int) - 2) = ((m - 2 : Nat) : Int) := by rw [wrapS _ ⟨by omega, by omega⟩]; omega
    have e2' : (IntKind.i64.wrap ((m : Int) - 2)).toNat = m - 2 := by rw [e2]; omega
    intro _; refine ⟨by rw [e2]; omega, ?_⟩
    intro _
    refine call_pure [] (isW_ok (by' s (IntKind.i64.wrap ((m : Int) - 2)).toNat) (by_range _ _)) rfl rfl rfl ?_ ?_ ?_
    · (repeat' first | exact trivial | exact rfl | refine And.intro ?_ ?_)
    · (repeat' first | exact trivial | exact rfl | refine And.intro ?_ ?_)
    intro v hv _
    subst hv
    intro _; refine ⟨fun g => ?_, fun g => ?_⟩
    rotate_left
    · have g4 : ¬ isW (by' s (m - 2)) := by
        have := of_decide_eq_false (show decide (isW (by' s (IntKind.i64.wrap ((m : Int) - 2)).toNat)) = false from g)
        rwa [e2'] at this
      have hPL : ¬ PL bf bh kp s m := fun q => g4 ((PL45 g2).1 q).2.1
      intro _; refine ⟨fun g => ?_, fun g => ?_⟩
      · have hB := of_decide_eq_true (show decide (BG s (m - 1)) = true from g)
        intro _; refine ⟨by rw [e1]; omega, ?_⟩
        intro _
        refine call_pure [] (follow_ok (BF s (m - 1)) (by' s (IntKind.i64.wrap ((m : Int) - 1)).toNat) (by_range _ _) (by omega)) rfl rfl rfl ?_ ?_ ?_
        · (repeat' first | exact trivial | exact rfl | refine And.intro ?_ ?_)
        · (repeat' first | exact trivial | exact rfl | refine And.intro ?_ ?_)
        intro v hv _
        subst hv
        have ls := frm_no (bf := bf) (bh := bh) (kp := kp) (s := s) (m := m) (fun q => hPL q.2)
        refine ⟨⟨m + 1, by omega, by omega⟩, by simp only []; omega, th [] 13, rfl, rfl, rfl, rfl, rfl, rfl, ?_, ?_⟩
        · (repeat' first | exact trivial | exact rfl | refine And.intro ?_ ?_)
          · exact (wrap_nat m (by omega)).symm
          · exact (decide_eq_true (BG_of m hB))
          · exact eBF
        · (repeat' first | exact trivial | exact rfl | refine And.intro ?_ ?_)
          all_goals (first | (rw [ls.1]; (repeat' first | exact trivial | exact rfl | refine And.intro ?_ ?_); done) | (rw [ls.2]; (repeat' first | exact trivial | exact rfl | refine And.intro ?_ ?_); done))
      have hB := of_decide_eq_false (show decide (BG s (m - 1)) = false from g)
      have hBt := BG_no m hB h1 e1'
      intro _; refine ⟨by rw [e1]; omega, ?_⟩
      intro _; refine ⟨by rw [e1]; omega, ?_⟩
      intro _
      refine call_pure [] (follow_ok (BF s (m - 1)) (by' s (IntKind.i64.wrap ((m : Int) - 1)).toNat) (by_range _ _) (by omega)) rfl rfl rfl ?_ ?_ ?_
      · (repeat' first | exact trivial | exact rfl | refine And.intro ?_ ?_)
      · (repeat' first | exact trivial | exact rfl | refine And.intro ?_ ?_)
      intro v hv _
      subst hv
      have ls := frm_no (bf := bf) (bh := bh) (kp := kp) (s := s) (m := m) (fun q => hPL q.2)
      refine ⟨⟨m + 1, by omega, by omega⟩, by simp only []; omega, th [] 13, rfl, rfl, rfl, rfl, rfl, rfl, ?_, ?_⟩
      · (repeat' first | exact trivial | exact rfl | refine And.intro ?_ ?_)
        · exact (wrap_nat m (by omega)).symm
        · exact hBt
        · exact eBF
      · (repeat' first | exact trivial | exact rfl | refine And.intro ?_ ?_)
        all_goals (first | (rw [ls.1]; (repeat' first | exact trivial | exact rfl | refine And.intro ?_ ?_); done) | (rw [ls.2]; (repeat' first | exact trivial | exact rfl | refine And.intro ?_ ?_); done))
    have g4 : isW (by' s (m - 2)) := by
      have := of_decide_eq_true (show decide (isW (by' s (IntKind.i64.wrap ((m : Int) - 2)).toNat)) = true from g)
      rwa [e2'] at this
    intro _; refine ⟨show 0 ≤ (m : Int) ∧ (m : Int) < (s.length : Int) by omega, ?_⟩
    intro _
    refine call_pure [] (isW_ok (by' s (m : Int).toNat) (by_range _ _)) rfl rfl rfl ?_ ?_ ?_
    · (repeat' first | exact trivial | exact rfl | refine And.intro ?_ ?_)
    · (repeat' first | exact trivial | exact rfl | refine And.intro ?_ ?_)
    intro v hv _
    subst hv
    intro _; refine ⟨fun g => ?_, fun g => ?_⟩
    · have hB := of_decide_eq_true (show decide (BG s (m - 1)) = true from g)
      intro _; refine ⟨by rw [e1]; omega, ?_⟩
      intro _
      refine call_pure [] (follow_ok (BF s (m - 1)) (by' s (IntKind.i64.wrap ((m : Int) - 1)).toNat) (by_range _ _) (by omega)) rfl rfl rfl ?_ ?_ ?_
      · (repeat' first | exact trivial | exact rfl | refine And.intro ?_ ?_)
      · (repeat' first | exact trivial | exact rfl | refine And.intro ?_ ?_)
      intro v hv _
      subst hv
      intro _; refine ⟨fun g => ?_, fun g => ?_⟩
      · have hPL : PL bf bh kp s m := (PL45 g2).2 ⟨by omega, g4, of_decide_eq_true (show decide (isW (by' s (m : Int).toNat)) = true from g)⟩
        have ls := frm_yes (bf := bf) (bh := bh) (kp := kp) (s := s) (m := m) ⟨h1, hPL⟩
        rw [hHY] at ls
        intro _
        refine yield_ok tt_ok ?_
        intro _
        refine enter tt_ok Try.func25 (nt := 33) (cd := body Try.f25) rfl rfl rfl rfl ?_
        intro _; refine ⟨show 0 ≤ frm bf bh kp s m ∧ frm bf bh kp s m ≤ (m : Int) ∧ (m : Int) ≤ (s.length : Int) by omega, ?_⟩
        intro _
        refine call_pure [] (Shw_ok (seg s (frm bf bh kp s m) (m : Int)) (VA_seg hVA _ _)) rfl rfl rfl ?_ ?_ ?_
        · (repeat' first | exact trivial | exact rfl | refine And.intro ?_ ?_)
        · (repeat' first | exact trivial | exact rfl | refine And.intro ?_ ?_)
        intro v hv _
        subst hv
        intro _
        refine call_pure [] (Trm_ok (sh (seg s (frm bf bh kp s m) (m : Int))) (VA_sh (VA_seg hVA _ _))) rfl rfl rfl ?_ ?_ ?_
        · (repeat' first | exact trivial | exact rfl | refine And.intro ?_ ?_)
        · (repeat' first | exact trivial | exact rfl | refine And.intro ?_ ?_)
        intro v hv _
        subst hv
        have ep : pt (seg s (frm bf bh kp s m) (m : Int)) false = (tr (sh (seg s (frm bf bh kp s m) (m : Int)))) := by unfold pt; rw [if_neg (by decide), List.append_nil]
        rw [ep] at ls
        intro _; refine ⟨fun g => ?_, fun g => ?_⟩
        · have gp : (tr (sh (seg s (frm bf bh kp s m) (m : Int)))) ≠ [] := bne_iff_ne.1 (show ((tr (sh (seg s (frm bf bh kp s m) (m : Int)))) != []) = true from g)
          rw [opt_one gp] at ls
          intro _; refine ⟨rfl, ?_⟩
          intro _; refine ⟨fun g3 => by simp at g3, fun _ => ?_⟩
          refine ⟨⟨rfl, show (PTm bf bh kp s m).length + 1 ≤ 4611686018427387904 by omega, show ((PTm bf bh kp s m).length + 1) * 16 ≤ 140737488355328 by omega⟩, ?_⟩
          intro _
          intro _
          refine ⟨⟨m + 1, by omega, by omega⟩, by simp only []; omega, th [(12, some 17)] 13, rfl, rfl, rfl, rfl, rfl, rfl, ?_, ?_⟩
          · (repeat' first | exact trivial | exact rfl | refine And.intro ?_ ?_)
            · exact (wrap_nat m (by omega)).symm
            · exact (decide_eq_true (BG_of m hB))
            · exact eBF
          · (repeat' first | exact trivial | exact rfl | refine And.intro ?_ ?_)
            all_goals (first | (rw [ls.1]; (repeat' first | exact trivial | exact rfl | refine And.intro ?_ ?_); done) | (rw [ls.2, List.length_append]; (repeat' first | exact trivial | exact rfl | refine And.intro ?_ ?_); done) | (rw [ls.2]; (repeat' first | exact trivial | exact rfl | refine And.intro ?_ ?_); done))
        have gp : (tr (sh (seg s (frm bf bh kp s m) (m : Int)))) = [] := by
          have := show ((tr (sh (seg s (frm bf bh kp s m) (m : Int)))) != []) = false from g
          rwa [bne_eq_false_iff_eq] at this
        rw [opt_nil gp, List.append_nil] at ls
        intro _
        intro _
        refine ⟨⟨m + 1, by omega, by omega⟩, by simp only []; omega, th [] 13, rfl, rfl, rfl, rfl, rfl, rfl, ?_, ?_⟩
        · (repeat' first | exact trivial | exact rfl | refine And.intro ?_ ?_)
          · exact (wrap_nat m (by omega)).symm
          · exact (decide_eq_true (BG_of m hB))
          · exact eBF
        · (repeat' first | exact trivial | exact rfl | refine And.intro ?_ ?_)
          all_goals (first | (rw [ls.1]; (repeat' first | exact trivial | exact rfl | refine And.intro ?_ ?_); done) | (rw [ls.2]; (repeat' first | exact trivial | exact rfl | refine And.intro ?_ ?_); done))
      have hPL : ¬ PL bf bh kp s m := fun q => of_decide_eq_false (show decide (isW (by' s (m : Int).toNat)) = false from g) ((PL45 g2).1 q).2.2
      have ls := frm_no (bf := bf) (bh := bh) (kp := kp) (s := s) (m := m) (fun q => hPL q.2)
      refine ⟨⟨m + 1, by omega, by omega⟩, by simp only []; omega, th [] 13, rfl, rfl, rfl, rfl, rfl, rfl, ?_, ?_⟩
      · (repeat' first | exact trivial | exact rfl | refine And.intro ?_ ?_)
        · exact (wrap_nat m (by omega)).symm
        · exact (decide_eq_true (BG_of m hB))
        · exact eBF
      · (repeat' first | exact trivial | exact rfl | refine And.intro ?_ ?_)
        all_goals (first | (rw [ls.1]; (repeat' first | exact trivial | exact rfl | refine And.intro ?_ ?_); done) | (rw [ls.2]; (repeat' first | exact trivial | exact rfl | refine And.intro ?_ ?_); done))
    have hB := of_decide_eq_false (show decide (BG s (m - 1)) = false from g)
    have hBt := BG_no m hB h1 e1'
    intro _; refine ⟨by rw [e1]; omega, ?_⟩
    intro _; refine ⟨by rw [e1]; omega, ?_⟩
    intro _
    refine call_pure [] (follow_ok (BF s (m - 1)) (by' s (IntKind.i64.wrap ((m : Int) - 1)).toNat) (by_range _ _) (by omega)) rfl rfl rfl ?_ ?_ ?_
    · (repeat' first | exact trivial | exact rfl | refine And.intro ?_ ?_)
    · (repeat' first | exact trivial | exact rfl | refine And.intro ?_ ?_)
    intro v hv _
    subst hv
    intro _; refine ⟨fun g => ?_, fun g => ?_⟩
    · have hPL : PL bf bh kp s m := (PL45 g2).2 ⟨by omega, g4, of_decide_eq_true (show decide (isW (by' s (m : Int).toNat)) = true from g)⟩
      have ls := frm_yes (bf := bf) (bh := bh) (kp := kp) (s := s) (m := m) ⟨h1, hPL⟩
      rw [hHY] at ls
      intro _
      refine yield_ok tt_ok ?_
      intro _
      refine enter tt_ok Try.func25 (nt := 33) (cd := body Try.f25) rfl rfl rfl rfl ?_
      intro _; refine ⟨show 0 ≤ frm bf bh kp s m ∧ frm bf bh kp s m ≤ (m : Int) ∧ (m : Int) ≤ (s.length : Int) by omega, ?_⟩
      intro _
      refine call_pure [] (Shw_ok (seg s (frm bf bh kp s m) (m : Int)) (VA_seg hVA _ _)) rfl rfl rfl ?_ ?_ ?_
      · (repeat' first | exact trivial | exact rfl | refine And.intro ?_ ?_)
      · (repeat' first | exact trivial | exact rfl | refine And.intro ?_ ?_)
      intro v hv _
      subst hv
      intro _
      refine call_pure [] (Trm_ok (sh (seg s (frm bf bh kp s m) (m : Int))) (VA_sh (VA_seg hVA _ _))) rfl rfl rfl ?_ ?_ ?_
      · (repeat' first | exact trivial | exact rfl | refine And.intro ?_ ?_)
      · (repeat' first | exact trivial | exact rfl | refine And.intro ?_ ?_)
      intro v hv _
      subst hv
      have ep : pt (seg s (frm bf bh kp s m) (m : Int)) false = (tr (sh (seg s (frm bf bh kp s m) (m : Int)))) := by unfold pt; rw [if_neg (by decide), List.append_nil]
      rw [ep] at ls
      intro _; refine ⟨fun g => ?_, fun g => ?_⟩
      · have gp : (tr (sh (seg s (frm bf bh kp s m) (m : Int)))) ≠ [] := bne_iff_ne.1 (show ((tr (sh (seg s (frm bf bh kp s m) (m : Int)))) != []) = true from g)
        rw [opt_one gp] at ls
        intro _; refine ⟨rfl, ?_⟩
        intro _; refine ⟨fun g3 => by simp at g3, fun _ => ?_⟩
        refine ⟨⟨rfl, show (PTm bf bh kp s m).length + 1 ≤ 4611686018427387904 by omega, show ((PTm bf bh kp s m).length + 1) * 16 ≤ 140737488355328 by omega⟩, ?_⟩
        intro _
        intro _
        refine ⟨⟨m + 1, by omega, by omega⟩, by simp only []; omega, th [(12, some 17)] 13, rfl, rfl, rfl, rfl, rfl, rfl, ?_, ?_⟩
        · (repeat' first | exact trivial | exact rfl | refine And.intro ?_ ?_)
          · exact (wrap_nat m (by omega)).symm
          · exact hBt
          · exact eBF
        · (repeat' first | exact trivial | exact rfl | refine And.intro ?_ ?_)
          all_goals (first | (rw [ls.1]; (repeat' first | exact trivial | exact rfl | refine And.intro ?_ ?_); done) | (rw [ls.2, List.length_append]; (repeat' first | exact trivial | exact rfl | refine And.intro ?_ ?_); done) | (rw [ls.2]; (repeat' first | exact trivial | exact rfl | refine And.intro ?_ ?_); done))
      have gp : (tr (sh (seg s (frm bf bh kp s m) (m : Int)))) = [] := by
        have := show ((tr (sh (seg s (frm bf bh kp s m) (m : Int)))) != []) = false from g
        rwa [bne_eq_false_iff_eq] at this
      rw [opt_nil gp, List.append_nil] at ls
      intro _
      intro _
      refine ⟨⟨m + 1, by omega, by omega⟩, by simp only []; omega, th [] 13, rfl, rfl, rfl, rfl, rfl, rfl, ?_, ?_⟩
      · (repeat' first | exact trivial | exact rfl | refine And.intro ?_ ?_)
        · exact (wrap_nat m (by omega)).symm
        · exact hBt
        · exact eBF
      · (repeat' first | exact trivial | exact rfl | refine And.intro ?_ ?_)
        all_goals (first | (rw [ls.1]; (repeat' first | exact trivial | exact rfl | refine And.intro ?_ ?_); done) | (rw [ls.2]; (repeat' first | exact trivial | exact rfl | refine And.intro ?_ ?_); done))
    have hPL : ¬ PL bf bh kp s m := fun q => of_decide_eq_false (show decide (isW (by' s (m : Int).toNat)) = false from g) ((PL45 g2).1 q).2.2
    have ls := frm_no (bf := bf) (bh := bh) (kp := kp) (s := s) (m := m) (fun q => hPL q.2)
    refine ⟨⟨m + 1, by omega, by omega⟩, by simp only []; omega, th [] 13, rfl, rfl, rfl, rfl, rfl, rfl, ?_, ?_⟩
    · (repeat' first | exact trivial | exact rfl | refine And.intro ?_ ?_)
      · exact (wrap_nat m (by omega)).symm
      · exact hBt
      · exact eBF
    · (repeat' first | exact trivial | exact rfl | refine And.intro ?_ ?_)
      all_goals (first | (rw [ls.1]; (repeat' first | exact trivial | exact rfl | refine And.intro ?_ ?_); done) | (rw [ls.2]; (repeat' first | exact trivial | exact rfl | refine And.intro ?_ ?_); done))
  have g2 : ¬ by' s (m - 1) = 45 := by
    have := beq_eq_false_iff_ne.1 (show (by' s (IntKind.i64.wrap ((m : Int) - 1)).toNat == 45) = false from g)
    rwa [e1'] at this
  intro _; refine ⟨fun g => ?_, fun g => ?_⟩
  rotate_left
  · have g3 : ¬ by' s (m - 1) = 126 := by
      have := beq_eq_false_iff_ne.1 (show (by' s (IntKind.i64.wrap ((m : Int) - 1)).toNat == 126) = false from g)
      rwa [e1'] at this
    have hPL : ¬ PL bf bh kp s m := PLno g1 g2 g3
    intro _; refine ⟨fun g => ?_, fun g => ?_⟩
    · have hB := of_decide_eq_true (show decide (BG s (m - 1)) = true from g)
      intro _; refine ⟨by rw [e1]; omega, ?_⟩
      intro _
      refine call_pure [] (follow_ok (BF s (m - 1)) (by' s (IntKind.i64.wrap ((m : Int) - 1)).toNat) (by_range _ _) (by omega)) rfl rfl rfl ?_ ?_ ?_
      · (repeat' first | exact trivial | exact rfl | refine And.intro ?_ ?_)
      · (repeat' first | exact trivial | exact rfl | refine And.intro ?_ ?_)
      intro v hv _
      subst hv
      have ls := frm_no (bf := bf) (bh := bh) (kp := kp) (s := s) (m := m) (fun q => hPL q.2)
      refine ⟨⟨m + 1, by omega, by omega⟩, by simp only []; omega, th [] 13, rfl, rfl, rfl, rfl, rfl, rfl, ?_, ?_⟩
      · (repeat' first | exact trivial | exact rfl | refine And.intro ?_ ?_)
        · exact (wrap_nat m (by omega)).symm
        · exact (decide_eq_true (BG_of m hB))
        · exact eBF
      · (repeat' first | exact trivial | exact rfl | refine And.intro ?_ ?_)
        all_goals (first | (rw [ls.1]; (repeat' first | exact trivial | exact rfl | refine And.intro ?_ ?_); done) | (rw [ls.2]; (repeat' first | exact trivial | exact rfl | refine And.intro ?_ ?_); done))
    have hB := of_decide_eq_false (show decide (BG s (m - 1)) = false from g)
    have hBt := BG_no m hB h1 e1'
    intro _; refine ⟨by rw [e1]; omega, ?_⟩
    intro _; refine ⟨by rw [e1]; omega, ?_⟩
    intro _
    refine call_pure [] (follow_ok (BF s (m - 1)) (by' s (IntKind.i64.wrap ((m : Int) - 1)).toNat) (by_range _ _) (by omega)) rfl rfl rfl ?_ ?_ ?_
    · (repeat' first | exact trivial | exact rfl | refine And.intro ?_ ?_)
    · (repeat' first | exact trivial | exact rfl | refine And.intro ?_ ?_)
    intro v hv _
    subst hv
    have ls := frm_no (bf := bf) (bh := bh) (kp := kp) (s := s) (m := m) (fun q => hPL q.2)
    refine ⟨⟨m + 1, by omega, by omega⟩, by simp only []; omega, th [] 13, rfl, rfl, rfl, rfl, rfl, rfl, ?_, ?_⟩
    · (repeat' first | exact trivial | exact rfl | refine And.intro ?_ ?_)
      · exact (wrap_nat m (by omega)).symm
      · exact hBt
      · exact eBF
    · (repeat' first | exact trivial | exact rfl | refine And.intro ?_ ?_)
      all_goals (first | (rw [ls.1]; (repeat' first | exact trivial | exact rfl | refine And.intro ?_ ?_); done) | (rw [ls.2]; (repeat' first | exact trivial | exact rfl | refine And.intro ?_ ?_); done))
  have g3 : by' s (m - 1) = 126 := by
    have := eq_of_beq (show (by' s (IntKind.i64.wrap ((m : Int) - 1)).toNat == 126) = true from g)
    rwa [e1'] at this
  have hHY : decide (HY s m) = true := decide_eq_true g3
  intro _; refine ⟨fun g => ?_, fun g => ?_⟩
  rotate_left
  · have g4 := of_decide_eq_false (show decide ((m : Int) > 1) = false from g)
    have hPL : ¬ PL bf bh kp s m := fun q => by have := ((PL126 g3).1 q).1; omega
    intro _; refine ⟨by kernel_rfl, ?_⟩
    intro _; refine ⟨fun g => ?_, fun g => ?_⟩
    · have hB := of_decide_eq_true (show decide (BG s (m - 1)) = true from g)
      intro _; refine ⟨by rw [e1]; omega, ?_⟩
      intro _
      refine call_pure [] (follow_ok (BF s (m - 1)) (by' s (IntKind.i64.wrap ((m : Int) - 1)).toNat) (by_range _ _) (by omega)) rfl rfl rfl ?_ ?_ ?_
      · (repeat' first | exact trivial | exact rfl | refine And.intro ?_ ?_)
      · (repeat' first | exact trivial | exact rfl | refine And.intro ?_ ?_)
      intro v hv _
      subst hv
      have ls := frm_no (bf := bf) (bh := bh) (kp := kp) (s := s) (m := m) (fun q => hPL q.2)
      refine ⟨⟨m + 1, by omega, by omega⟩, by simp only []; omega, th [] 13, rfl, rfl, rfl, rfl, rfl, rfl, ?_, ?_⟩
      · (repeat' first | exact trivial | exact rfl | refine And.intro ?_ ?_)
        · exact (wrap_nat m (by omega)).symm
        · exact (decide_eq_true (BG_of m hB))
        · exact eBF
      · (repeat' first | exact trivial | exact rfl | refine And.intro ?_ ?_)
        all_goals (first | (rw [ls.1]; (repeat' first | exact trivial | exact rfl | refine And.intro ?_ ?_); done) | (rw [ls.2]; (repeat' first | exact trivial | exact rfl | refine And.intro ?_ ?_); done))
    have hB := of_decide_eq_false (show decide (BG s (m - 1)) = false from g)
    have hBt := BG_no m hB h1 e1'
    intro _; refine ⟨by rw [e1]; omega, ?_⟩
    intro _; refine ⟨by rw [e1]; omega, ?_⟩
    intro _
    refine call_pure [] (follow_ok (BF s (m - 1)) (by' s (IntKind.i64.wrap ((m : Int) - 1)).toNat) (by_range _ _) (by omega)) rfl rfl rfl ?_ ?_ ?_
    · (repeat' first | exact trivial | exact rfl | refine And.intro ?_ ?_)
    · (repeat' first | exact trivial | exact rfl | refine And.intro ?_ ?_)
    intro v hv _
    subst hv
    have ls := frm_no (bf := bf) (bh := bh) (kp := kp) (s := s) (m := m) (fun q => hPL q.2)
    refine ⟨⟨m + 1, by omega, by omega⟩, by simp only []; omega, th [] 13, rfl, rfl, rfl, rfl, rfl, rfl, ?_, ?_⟩
    · (repeat' first | exact trivial | exact rfl | refine And.intro ?_ ?_)
      · exact (wrap_nat m (by omega)).symm
      · exact hBt
      · exact eBF
    · (repeat' first | exact trivial | exact rfl | refine And.intro ?_ ?_)
      all_goals (first | (rw [ls.1]; (repeat' first | exact trivial | exact rfl | refine And.intro ?_ ?_); done) | (rw [ls.2]; (repeat' first | exact trivial | exact rfl | refine And.intro ?_ ?_); done))
  have g4 := of_decide_eq_true (show decide ((m : Int) > 1) = true from g)
  have e2 : IntKind.i64.wrap ((m : Int) - 2) = ((m - 2 : Nat) : Int) := by rw [wrapS _ ⟨by omega, by omega⟩]; omega
  have e2' : (IntKind.i64.wrap ((m : Int) - 2)).toNat = m - 2 := by rw [e2]; omega
  intro _; refine ⟨by rw [e2]; omega, ?_⟩
  intro _
  refine Or.inl ?_
  intro _
  refine call_pure [] (isL_ok (by' s (IntKind.i64.wrap ((m : Int) - 2)).toNat) (by_range _ _)) rfl rfl rfl ?_ ?_ ?_
  · (repeat' first | exact trivial | exact rfl | refine And.intro ?_ ?_)
  · (repeat' first | exact trivial | exact rfl | refine And.intro ?_ ?_)
  intro v hv _
  subst hv
  intro _; refine ⟨fun g => ?_, fun g => ?_⟩
  rotate_left
  · have g5 : ¬ isL (by' s (m - 2)) := by
      have := of_decide_eq_false (show decide (isL (by' s (IntKind.i64.wrap ((m : Int) - 2)).toNat)) = false from g)
      rwa [e2'] at this
    have hPL : ¬ PL bf bh kp s m := fun q => g5 ((PL126 g3).1 q).2.1
    intro _; refine ⟨by kernel_rfl, ?_⟩
    intro _; refine ⟨fun g => ?_, fun g => ?_⟩
    · have hB := of_decide_eq_true (show decide (BG s (m - 1)) = true from g)
      intro _; refine ⟨by rw [e1]; omega, ?_⟩
      intro _
      refine call_pure [] (follow_ok (BF s (m - 1)) (by' s (IntKind.i64.wrap ((m : Int) - 1)).toNat) (by_range _ _) (by omega)) rfl rfl rfl ?_ ?_ ?_
      · (repeat' first | exact trivial | exact rfl | refine And.intro ?_ ?_)
      · (repeat' first | exact trivial | exact rfl | refine And.intro ?_ ?_)
      intro v hv _
      subst hv
      have ls := frm_no (bf := bf) (bh := bh) (kp := kp) (s := s) (m := m) (fun q => hPL q.2)
      refine ⟨⟨m + 1, by omega, by omega⟩, by simp only []; omega, th [] 13, rfl, rfl, rfl, rfl, rfl, rfl, ?_, ?_⟩
      · (repeat' first | exact trivial | exact rfl | refine And.intro ?_ ?_)
        · exact (wrap_nat m (by omega)).symm
        · exact (decide_eq_true (BG_of m hB))
        · exact eBF
      · (repeat' first | exact trivial | exact rfl | refine And.intro ?_ ?_)
        all_goals (first | (rw [ls.1]; (repeat' first | exact trivial | exact rfl | refine And.intro ?_ ?_); done) | (rw [ls.2]; (repeat' first | exact trivial | exact rfl | refine And.intro ?_ ?_); done))
    have hB := of_decide_eq_false (show decide (BG s (m - 1)) = false from g)
    have hBt := BG_no m hB h1 e1'
    intro _; refine ⟨by rw [e1]; omega, ?_⟩
    intro _; refine ⟨by rw [e1]; omega, ?_⟩
    intro _
    refine call_pure [] (follow_ok (BF s (m - 1)) (by' s (IntKind.i64.wrap ((m : Int) - 1)).toNat) (by_range _ _) (by omega)) rfl rfl rfl ?_ ?_ ?_
    · (repeat' first | exact trivial | exact rfl | refine And.intro ?_ ?_)
    · (repeat' first | exact trivial | exact rfl | refine And.intro ?_ ?_)
    intro v hv _
    subst hv
    have ls := frm_no (bf := bf) (bh := bh) (kp := kp) (s := s) (m := m) (fun q => hPL q.2)
    refine ⟨⟨m + 1, by omega, by omega⟩, by simp only []; omega, th [] 13, rfl, rfl, rfl, rfl, rfl, rfl, ?_, ?_⟩
    · (repeat' first | exact trivial | exact rfl | refine And.intro ?_ ?_)
      · exact (wrap_nat m (by omega)).symm
      · exact hBt
      · exact eBF
    · (repeat' first | exact trivial | exact rfl | refine And.intro ?_ ?_)
      all_goals (first | (rw [ls.1]; (repeat' first | exact trivial | exact rfl | refine And.intro ?_ ?_); done) | (rw [ls.2]; (repeat' first | exact trivial | exact rfl | refine And.intro ?_ ?_); done))
  have g5 : isL (by' s (m - 2)) := by
    have := of_decide_eq_true (show decide (isL (by' s (IntKind.i64.wrap ((m : Int) - 2)).toNat)) = true from g)
    rwa [e2'] at this
  intro _; refine ⟨fun g => ?_, fun g => ?_⟩
  rotate_left
  · have g6 := of_decide_eq_false (show decide (BF s (m - 1) ≥ bf) = false from g)
    have hPL : ¬ PL bf bh kp s m := fun q => by have := ((PL126 g3).1 q).2.2.1; omega
    intro _; refine ⟨by kernel_rfl, ?_⟩
    intro _; refine ⟨fun g => ?_, fun g => ?_⟩
    · have hB := of_decide_eq_true (show decide (BG s (m - 1)) = true from g)
      intro _; refine ⟨by rw [e1]; omega, ?_⟩
      intro _
      refine call_pure [] (follow_ok (BF s (m - 1)) (by' s (IntKind.i64.wrap ((m : Int) - 1)).toNat) (by_range _ _) (by omega)) rfl rfl rfl ?_ ?_ ?_
      · (repeat' first | exact trivial | exact rfl | refine And.intro ?_ ?_)
      · (repeat' first | exact trivial | exact rfl | refine And.intro ?_ ?_)
      intro v hv _
      subst hv
      have ls := frm_no (bf := bf) (bh := bh) (kp := kp) (s := s) (m := m) (fun q => hPL q.2)
      refine ⟨⟨m + 1, by omega, by omega⟩, by simp only []; omega, th [] 13, rfl, rfl, rfl, rfl, rfl, rfl, ?_, ?_⟩
      · (repeat' first | exact trivial | exact rfl | refine And.intro ?_ ?_)
        · exact (wrap_nat m (by omega)).symm
        · exact (decide_eq_true (BG_of m hB))
        · exact eBF
      · (repeat' first | exact trivial | exact rfl | refine And.intro ?_ ?_)
        all_goals (first | (rw [ls.1]; (repeat' first | exact trivial | exact rfl | refine And.intro ?_ ?_); done) | (rw [ls.2]; (repeat' first | exact trivial | exact rfl | refine And.intro ?_ ?_); done))
    have hB := of_decide_eq_false (show decide (BG s (m - 1)) = false from g)
    have hBt := BG_no m hB h1 e1'
    intro _; refine ⟨by rw [e1]; omega, ?_⟩
    intro _; refine ⟨by rw [e1]; omega, ?_⟩
    intro _
    refine call_pure [] (follow_ok (BF s (m - 1)) (by' s (IntKind.i64.wrap ((m : Int) - 1)).toNat) (by_range _ _) (by omega)) rfl rfl rfl ?_ ?_ ?_
    · (repeat' first | exact trivial | exact rfl | refine And.intro ?_ ?_)
    · (repeat' first | exact trivial | exact rfl | refine And.intro ?_ ?_)
    intro v hv _
    subst hv
    have ls := frm_no (bf := bf) (bh := bh) (kp := kp) (s := s) (m := m) (fun q => hPL q.2)
    refine ⟨⟨m + 1, by omega, by omega⟩, by simp only []; omega, th [] 13, rfl, rfl, rfl, rfl, rfl, rfl, ?_, ?_⟩
    · (repeat' first | exact trivial | exact rfl | refine And.intro ?_ ?_)
      · exact (wrap_nat m (by omega)).symm
      · exact hBt
      · exact eBF
    · (repeat' first | exact trivial | exact rfl | refine And.intro ?_ ?_)
      all_goals (first | (rw [ls.1]; (repeat' first | exact trivial | exact rfl | refine And.intro ?_ ?_); done) | (rw [ls.2]; (repeat' first | exact trivial | exact rfl | refine And.intro ?_ ?_); done))
  have g6 := of_decide_eq_true (show decide (BF s (m - 1) ≥ bf) = true from g)
  have eg : (mk (s.length + 1) (FB s)).getD (m : Int).toNat 0 = FB s m := by rw [Int.toNat_natCast, mk_get _ (by omega)]
  intro _; refine ⟨show 0 ≤ (m : Int) ∧ (m : Int) < ((s.length + 1 : Nat) : Int) by omega, ?_⟩
  intro _; refine ⟨show (m : Int).toNat < (mk (s.length + 1) (FB s)).length by rw [hFL]; omega, ?_⟩
  intro _; refine ⟨fun g => ?_, fun g => ?_⟩
  rotate_left
  · have g7 := of_decide_eq_false (show decide ((mk (s.length + 1) (FB s)).getD (m : Int).toNat 0 ≥ bh) = false from g)
    rw [eg] at g7
    have hPL : ¬ PL bf bh kp s m := fun q => by have := ((PL126 g3).1 q).2.2.2.1; omega
    intro _; refine ⟨by kernel_rfl, ?_⟩
    intro _; refine ⟨fun g => ?_, fun g => ?_⟩
    · have hB := of_decide_eq_true (show decide (BG s (m - 1)) = true from g)
      intro _; refine ⟨by rw [e1]; omega, ?_⟩
      intro _
      refine call_pure [] (follow_ok (BF s (m - 1)) (by' s (IntKind.i64.wrap ((m : Int) - 1)).toNat) (by_range _ _) (by omega)) rfl rfl rfl ?_ ?_ ?_
      · (repeat' first | exact trivial | exact rfl | refine And.intro ?_ ?_)
      · (repeat' first | exact trivial | exact rfl | refine And.intro ?_ ?_)
      intro v hv _
      subst hv
      have ls := frm_no (bf := bf) (bh := bh) (kp := kp) (s := s) (m := m) (fun q => hPL q.2)
      refine ⟨⟨m + 1, by omega, by omega⟩, by simp only []; omega, th [] 13, rfl, rfl, rfl, rfl, rfl, rfl, ?_, ?_⟩
      · (repeat' first | exact trivial | exact rfl | refine And.intro ?_ ?_)
        · exact (wrap_nat m (by omega)).symm
        · exact (decide_eq_true (BG_of m hB))
        · exact eBF
      · (repeat' first | exact trivial | exact rfl | refine And.intro ?_ ?_)
        all_goals (first | (rw [ls.1]; (repeat' first | exact trivial | exact rfl | refine And.intro ?_ ?_); done) | (rw [ls.2]; (repeat' first | exact trivial | exact rfl | refine And.intro ?_ ?_); done))
    have hB := of_decide_eq_false (show decide (BG s (m - 1)) = false from g)
    have hBt := BG_no m hB h1 e1'
    intro _; refine ⟨by rw [e1]; omega, ?_⟩
    intro _; refine ⟨by rw [e1]; omega, ?_⟩
    intro _
    refine call_pure [] (follow_ok (BF s (m - 1)) (by' s (IntKind.i64.wrap ((m : Int) - 1)).toNat) (by_range _ _) (by omega)) rfl rfl rfl ?_ ?_ ?_
    · (repeat' first | exact trivial | exact rfl | refine And.intro ?_ ?_)
    · (repeat' first | exact trivial | exact rfl | refine And.intro ?_ ?_)
    intro v hv _
    subst hv
    have ls := frm_no (bf := bf) (bh := bh) (kp := kp) (s := s) (m := m) (fun q => hPL q.2)
    refine ⟨⟨m + 1, by omega, by omega⟩, by simp only []; omega, th [] 13, rfl, rfl, rfl, rfl, rfl, rfl, ?_, ?_⟩
    · (repeat' first | exact trivial | exact rfl | refine And.intro ?_ ?_)
      · exact (wrap_nat m (by omega)).symm
      · exact hBt
      · exact eBF
    · (repeat' first | exact trivial | exact rfl | refine And.intro ?_ ?_)
      all_goals (first | (rw [ls.1]; (repeat' first | exact trivial | exact rfl | refine And.intro ?_ ?_); done) | (rw [ls.2]; (repeat' first | exact trivial | exact rfl | refine And.intro ?_ ?_); done))
  have g7 := of_decide_eq_true (show decide ((mk (s.length + 1) (FB s)).getD (m : Int).toNat 0 ≥ bh) = true from g)
  rw [eg] at g7
  have hbh := hVB.2.1.1
  have eD : (s.drop (m : Int).toNat).take ((s.length : Int).toNat - (m : Int).toNat) = s.drop m := by
    rw [Int.toNat_natCast, Int.toNat_natCast]; exact List.take_of_length_le (by simp)
  have eY : flr ((s.drop (m : Int).toNat).take ((s.length : Int).toNat - (m : Int).toNat)) = fy s m := by
    rw [eD]; exact flr_fy _ m (Nat.le_refl _) (by omega)
  have eK : (((mfindS (SM kp kp.length) ([by' s (IntKind.i64.wrap ((m : Int) - 2)).toNat, flr ((s.drop (m : Int).toNat).take ((s.length : Int).toNat - (m : Int).toNat))].map fun n : Int => UInt8.ofNat n.toNat)).getD [.b false]).getD 0 (.n 0)).bool = true ↔ inK kp (by' s (m - 2)) (fy s m) := by
    rw [SM_in, inS_inK hVB (by_range _ _) (flr_bd _), eY, e2']
  intro _; refine ⟨by rw [e2]; omega, ?_⟩
  intro _; refine ⟨show 0 ≤ (m : Int) ∧ (m : Int) ≤ (s.length : Int) ∧ (s.length : Int) ≤ (s.length : Int) by omega, ?_⟩
  intro _
  refine Or.inl ?_
  intro _
  refine call_pure [] (first_ok ((s.drop (m : Int).toNat).take ((s.length : Int).toNat - (m : Int).toNat)) (by rw [eD]; simp; omega)) rfl rfl rfl ?_ ?_ ?_
  · (repeat' first | exact trivial | exact rfl | refine And.intro ?_ ?_)
  · (repeat' first | exact trivial | exact rfl | refine And.intro ?_ ?_)
  intro v hv _
  subst hv
  intro _; refine ⟨rfl, ?_⟩
  intro _; refine ⟨by kernel_rfl, ?_⟩
  intro _; refine ⟨fun g => ?_, fun g => ?_⟩
  · have hB := of_decide_eq_true (show decide (BG s (m - 1)) = true from g)
    intro _; refine ⟨by rw [e1]; omega, ?_⟩
    intro _
    refine call_pure [] (follow_ok (BF s (m - 1)) (by' s (IntKind.i64.wrap ((m : Int) - 1)).toNat) (by_range _ _) (by omega)) rfl rfl rfl ?_ ?_ ?_
    · (repeat' first | exact trivial | exact rfl | refine And.intro ?_ ?_)
    · (repeat' first | exact trivial | exact rfl | refine And.intro ?_ ?_)
    intro v hv _
    subst hv
    intro _; refine ⟨fun g => ?_, fun g => ?_⟩
    · have hPL : PL bf bh kp s m := (PL126 g3).2 ⟨by omega, g5, g6, g7, fun q => by have h := show (!(((mfindS (SM kp kp.length) ([by' s (IntKind.i64.wrap ((m : Int) - 2)).toNat, flr ((s.drop (m : Int).toNat).take ((s.length : Int).toNat - (m : Int).toNat))].map fun n : Int => UInt8.ofNat n.toNat)).getD [.b false]).getD 0 (.n 0)).bool) = true from g; rw [Bool.not_eq_true', Bool.eq_false_iff] at h; exact h (eK.2 q)⟩
      have ls := frm_yes (bf := bf) (bh := bh) (kp := kp) (s := s) (m := m) ⟨h1, hPL⟩
      rw [hHY] at ls
      intro _
      refine yield_ok tt_ok ?_
      intro _
      refine enter tt_ok Try.func25 (nt := 33) (cd := body Try.f25) rfl rfl rfl rfl ?_
      intro _; refine ⟨show 0 ≤ frm bf bh kp s m ∧ frm bf bh kp s m ≤ (m : Int) ∧ (m : Int) ≤ (s.length : Int) by omega, ?_⟩
      intro _
      refine call_pure [] (Shw_ok (seg s (frm bf bh kp s m) (m : Int)) (VA_seg hVA _ _)) rfl rfl rfl ?_ ?_ ?_
      · (repeat' first | exact trivial | exact rfl | refine And.intro ?_ ?_)
      · (repeat' first | exact trivial | exact rfl | refine And.intro ?_ ?_)
      intro v hv _
      subst hv
      intro _
      refine call_pure [] (Trm_ok (sh (seg s (frm bf bh kp s m) (m : Int))) (VA_sh (VA_seg hVA _ _))) rfl rfl rfl ?_ ?_ ?_
      · (repeat' first | exact trivial | exact rfl | refine And.intro ?_ ?_)
      · (repeat' first | exact trivial | exact rfl | refine And.intro ?_ ?_)
      intro v hv _
      subst hv
      intro _; refine ⟨show (tr (sh (seg s (frm bf bh kp s m) (m : Int)))).length + 1 ≤ 9223372036854775807 by omega, ?_⟩
      have ep : pt (seg s (frm bf bh kp s m) (m : Int)) true = (tr (sh (seg s (frm bf bh kp s m) (m : Int))) ++ [45]) := by unfold pt; rw [if_pos rfl]
      rw [ep] at ls
      intro _; refine ⟨fun g => ?_, fun g => ?_⟩
      · have gp : (tr (sh (seg s (frm bf bh kp s m) (m : Int))) ++ [45]) ≠ [] := bne_iff_ne.1 (show ((tr (sh (seg s (frm bf bh kp s m) (m : Int))) ++ [45]) != []) = true from g)
        rw [opt_one gp] at ls
        intro _; refine ⟨rfl, ?_⟩
        intro _; refine ⟨fun g3 => by simp at g3, fun _ => ?_⟩
        refine ⟨⟨rfl, show (PTm bf bh kp s m).length + 1 ≤ 4611686018427387904 by omega, show ((PTm bf bh kp s m).length + 1) * 16 ≤ 140737488355328 by omega⟩, ?_⟩
        intro _
        intro _
        refine ⟨⟨m + 1, by omega, by omega⟩, by simp only []; omega, th [(12, some 18)] 13, rfl, rfl, rfl, rfl, rfl, rfl, ?_, ?_⟩
        · (repeat' first | exact trivial | exact rfl | refine And.intro ?_ ?_)
          · exact (wrap_nat m (by omega)).symm
          · exact (decide_eq_true (BG_of m hB))
          · exact eBF
        · (repeat' first | exact trivial | exact rfl | refine And.intro ?_ ?_)
          all_goals (first | (rw [ls.1]; (repeat' first | exact trivial | exact rfl | refine And.intro ?_ ?_); done) | (rw [ls.2, List.length_append]; (repeat' first | exact trivial | exact rfl | refine And.intro ?_ ?_); done) | (rw [ls.2]; (repeat' first | exact trivial | exact rfl | refine And.intro ?_ ?_); done))
      have gp : (tr (sh (seg s (frm bf bh kp s m) (m : Int))) ++ [45]) = [] := by
        have := show ((tr (sh (seg s (frm bf bh kp s m) (m : Int))) ++ [45]) != []) = false from g
        rwa [bne_eq_false_iff_eq] at this
      rw [opt_nil gp, List.append_nil] at ls
      intro _
      intro _
      refine ⟨⟨m + 1, by omega, by omega⟩, by simp only []; omega, th [] 13, rfl, rfl, rfl, rfl, rfl, rfl, ?_, ?_⟩
      · (repeat' first | exact trivial | exact rfl | refine And.intro ?_ ?_)
        · exact (wrap_nat m (by omega)).symm
        · exact (decide_eq_true (BG_of m hB))
        · exact eBF
      · (repeat' first | exact trivial | exact rfl | refine And.intro ?_ ?_)
        all_goals (first | (rw [ls.1]; (repeat' first | exact trivial | exact rfl | refine And.intro ?_ ?_); done) | (rw [ls.2]; (repeat' first | exact trivial | exact rfl | refine And.intro ?_ ?_); done))
    have hPL : ¬ PL bf bh kp s m := fun q => by have h := show (!(((mfindS (SM kp kp.length) ([by' s (IntKind.i64.wrap ((m : Int) - 2)).toNat, flr ((s.drop (m : Int).toNat).take ((s.length : Int).toNat - (m : Int).toNat))].map fun n : Int => UInt8.ofNat n.toNat)).getD [.b false]).getD 0 (.n 0)).bool) = false from g; rw [Bool.not_eq_false'] at h; exact ((PL126 g3).1 q).2.2.2.2 (eK.1 h)
    have ls := frm_no (bf := bf) (bh := bh) (kp := kp) (s := s) (m := m) (fun q => hPL q.2)
    refine ⟨⟨m + 1, by omega, by omega⟩, by simp only []; omega, th [] 13, rfl, rfl, rfl, rfl, rfl, rfl, ?_, ?_⟩
    · (repeat' first | exact trivial | exact rfl | refine And.intro ?_ ?_)
      · exact (wrap_nat m (by omega)).symm
      · exact (decide_eq_true (BG_of m hB))
      · exact eBF
    · (repeat' first | exact trivial | exact rfl | refine And.intro ?_ ?_)
      all_goals (first | (rw [ls.1]; (repeat' first | exact trivial | exact rfl | refine And.intro ?_ ?_); done) | (rw [ls.2]; (repeat' first | exact trivial | exact rfl | refine And.intro ?_ ?_); done))
  have hB := of_decide_eq_false (show decide (BG s (m - 1)) = false from g)
  have hBt := BG_no m hB h1 e1'
  intro _; refine ⟨by rw [e1]; omega, ?_⟩
  intro _; refine ⟨by rw [e1]; omega, ?_⟩
  intro _
  refine call_pure [] (follow_ok (BF s (m - 1)) (by' s (IntKind.i64.wrap ((m : Int) - 1)).toNat) (by_range _ _) (by omega)) rfl rfl rfl ?_ ?_ ?_
  · (repeat' first | exact trivial | exact rfl | refine And.intro ?_ ?_)
  · (repeat' first | exact trivial | exact rfl | refine And.intro ?_ ?_)
  intro v hv _
  subst hv
  intro _; refine ⟨fun g => ?_, fun g => ?_⟩
  · have hPL : PL bf bh kp s m := (PL126 g3).2 ⟨by omega, g5, g6, g7, fun q => by have h := show (!(((mfindS (SM kp kp.length) ([by' s (IntKind.i64.wrap ((m : Int) - 2)).toNat, flr ((s.drop (m : Int).toNat).take ((s.length : Int).toNat - (m : Int).toNat))].map fun n : Int => UInt8.ofNat n.toNat)).getD [.b false]).getD 0 (.n 0)).bool) = true from g; rw [Bool.not_eq_true', Bool.eq_false_iff] at h; exact h (eK.2 q)⟩
    have ls := frm_yes (bf := bf) (bh := bh) (kp := kp) (s := s) (m := m) ⟨h1, hPL⟩
    rw [hHY] at ls
    intro _
    refine yield_ok tt_ok ?_
    intro _
    refine enter tt_ok Try.func25 (nt := 33) (cd := body Try.f25) rfl rfl rfl rfl ?_
    intro _; refine ⟨show 0 ≤ frm bf bh kp s m ∧ frm bf bh kp s m ≤ (m : Int) ∧ (m : Int) ≤ (s.length : Int) by omega, ?_⟩
    intro _
    refine call_pure [] (Shw_ok (seg s (frm bf bh kp s m) (m : Int)) (VA_seg hVA _ _)) rfl rfl rfl ?_ ?_ ?_
    · (repeat' first | exact trivial | exact rfl | refine And.intro ?_ ?_)
    · (repeat' first | exact trivial | exact rfl | refine And.intro ?_ ?_)
    intro v hv _
    subst hv
    intro _
    refine call_pure [] (Trm_ok (sh (seg s (frm bf bh kp s m) (m : Int))) (VA_sh (VA_seg hVA _ _))) rfl rfl rfl ?_ ?_ ?_
    · (repeat' first | exact trivial | exact rfl | refine And.intro ?_ ?_)
    · (repeat' first | exact trivial | exact rfl | refine And.intro ?_ ?_)
    intro v hv _
    subst hv
    intro _; refine ⟨show (tr (sh (seg s (frm bf bh kp s m) (m : Int)))).length + 1 ≤ 9223372036854775807 by omega, ?_⟩
    have ep : pt (seg s (frm bf bh kp s m) (m : Int)) true = (tr (sh (seg s (frm bf bh kp s m) (m : Int))) ++ [45]) := by unfold pt; rw [if_pos rfl]
    rw [ep] at ls
    intro _; refine ⟨fun g => ?_, fun g => ?_⟩
    · have gp : (tr (sh (seg s (frm bf bh kp s m) (m : Int))) ++ [45]) ≠ [] := bne_iff_ne.1 (show ((tr (sh (seg s (frm bf bh kp s m) (m : Int))) ++ [45]) != []) = true from g)
      rw [opt_one gp] at ls
      intro _; refine ⟨rfl, ?_⟩
      intro _; refine ⟨fun g3 => by simp at g3, fun _ => ?_⟩
      refine ⟨⟨rfl, show (PTm bf bh kp s m).length + 1 ≤ 4611686018427387904 by omega, show ((PTm bf bh kp s m).length + 1) * 16 ≤ 140737488355328 by omega⟩, ?_⟩
      intro _
      intro _
      refine ⟨⟨m + 1, by omega, by omega⟩, by simp only []; omega, th [(12, some 18)] 13, rfl, rfl, rfl, rfl, rfl, rfl, ?_, ?_⟩
      · (repeat' first | exact trivial | exact rfl | refine And.intro ?_ ?_)
        · exact (wrap_nat m (by omega)).symm
        · exact hBt
        · exact eBF
      · (repeat' first | exact trivial | exact rfl | refine And.intro ?_ ?_)
        all_goals (first | (rw [ls.1]; (repeat' first | exact trivial | exact rfl | refine And.intro ?_ ?_); done) | (rw [ls.2, List.length_append]; (repeat' first | exact trivial | exact rfl | refine And.intro ?_ ?_); done) | (rw [ls.2]; (repeat' first | exact trivial | exact rfl | refine And.intro ?_ ?_); done))
    have gp : (tr (sh (seg s (frm bf bh kp s m) (m : Int))) ++ [45]) = [] := by
      have := show ((tr (sh (seg s (frm bf bh kp s m) (m : Int))) ++ [45]) != []) = false from g
      rwa [bne_eq_false_iff_eq] at this
    rw [opt_nil gp, List.append_nil] at ls
    intro _
    intro _
    refine ⟨⟨m + 1, by omega, by omega⟩, by simp only []; omega, th [] 13, rfl, rfl, rfl, rfl, rfl, rfl, ?_, ?_⟩
    · (repeat' first | exact trivial | exact rfl | refine And.intro ?_ ?_)
      · exact (wrap_nat m (by omega)).symm
      · exact hBt
      · exact eBF
    · (repeat' first | exact trivial | exact rfl | refine And.intro ?_ ?_)
      all_goals (first | (rw [ls.1]; (repeat' first | exact trivial | exact rfl | refine And.intro ?_ ?_); done) | (rw [ls.2]; (repeat' first | exact trivial | exact rfl | refine And.intro ?_ ?_); done))
  have hPL : ¬ PL bf bh kp s m := fun q => by have h := show (!(((mfindS (SM kp kp.length) ([by' s (IntKind.i64.wrap ((m : Int) - 2)).toNat, flr ((s.drop (m : Int).toNat).take ((s.length : Int).toNat - (m : Int).toNat))].map fun n : Int => UInt8.ofNat n.toNat)).getD [.b false]).getD 0 (.n 0)).bool) = false from g; rw [Bool.not_eq_false'] at h; exact ((PL126 g3).1 q).2.2.2.2 (eK.1 h)
  have ls := frm_no (bf := bf) (bh := bh) (kp := kp) (s := s) (m := m) (fun q => hPL q.2)
  refine ⟨⟨m + 1, by omega, by omega⟩, by simp only []; omega, th [] 13, rfl, rfl, rfl, rfl, rfl, rfl, ?_, ?_⟩
  · (repeat' first | exact trivial | exact rfl | refine And.intro ?_ ?_)
    · exact (wrap_nat m (by omega)).symm
    · exact hBt
    · exact eBF
  · (repeat' first | exact trivial | exact rfl | refine And.intro ?_ ?_)
    all_goals (first | (rw [ls.1]; (repeat' first | exact trivial | exact rfl | refine And.intro ?_ ?_); done) | (rw [ls.2]; (repeat' first | exact trivial | exact rfl | refine And.intro ?_ ?_); done))
set_option maxRecDepth 100000
end Go.Proofs.Ytbjidlekfoabaaa.brk
