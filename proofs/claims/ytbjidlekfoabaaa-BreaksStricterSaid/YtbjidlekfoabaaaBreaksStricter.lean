/-
  BreaksStricter: whatever the arguments, the law returns true, and its arguments read as before. No conditions.
-/
import Derived.Test.YtbjidlekfoabaaaRows
import Derived.Test.YtbjidlekfoabaaaVwOpen2
import Derived.Test.YtbjidlekfoabaaaVwRules6
import Derived.Test.YtbjidlekfoabaaaVmSym
import Derived.WalkKit
import Derived.ProofKit
import Derived.OpenShut
import Derived.Carry
import Derived.ChangeMaps5
import Derived.Laws.RangeAny
import Derived.Test.YtbjidlekfoabaaaBrkA
namespace Go.Proofs.Ytbjidlekfoabaaa.breaksStricter
open Go.ChangeShapes Go.WideShapes Go.ChangeAt Go.RowKit
open Go.Vm (Facts Val Sound)
open Go.Vm2
set_option linter.unusedVariables false
set_option linter.unusedSectionVars false

open Go.Proofs.Ytbjidlekfoabaaa.brk
theorem own : ownKnob Try.prog.godebug = none := by kernel_rfl
theorem laidOut : laidOutB Try.prog = true := by kernel_rfl
set_option maxRecDepth 100000
def row (s : List UInt8) (a : Nat) : List D := [.n (a : Int), .b (decide (HY s a))]
theorem lst_row {bf bh : Int} {kp : LD} {s : List UInt8} : ∀ (m i : Nat), i < List.length (lst bf bh kp s m) → ∃ a, 1 ≤ a ∧ a < m ∧ PL bf bh kp s a ∧ (lst bf bh kp s m).getD i [] = row s a
  | 0, i, h => by simp [lst] at h
  | m + 1, i, h => by
    have ls : lst bf bh kp s (m + 1) = lst bf bh kp s m ++ (if 1 ≤ m ∧ PL bf bh kp s m then [row s m] else []) := rfl
    rw [ls] at h ⊢
    rcases Nat.lt_or_ge i (lst bf bh kp s m).length with q | q
    · obtain ⟨a, a1, a2, a3, a4⟩ := lst_row (bf := bf) (bh := bh) (kp := kp) (s := s) m i q
      refine ⟨a, a1, by omega, a3, ?_⟩
      rw [List.getD_eq_getElem?_getD, List.getElem?_append_left q, ← List.getD_eq_getElem?_getD]
      exact a4
    · by_cases c : 1 ≤ m ∧ PL bf bh kp s m
      · rw [if_pos c] at h ⊢
        have hi : i = (lst bf bh kp s m).length := by simp at h; omega
        refine ⟨m, c.1, by omega, c.2, ?_⟩
        rw [List.getD_eq_getElem?_getD, List.getElem?_append_right q, hi, Nat.sub_self]
        rfl
      · rw [if_neg c] at h
        simp at h; omega
theorem lst_inc {bf bh : Int} {kp : LD} {s : List UInt8} : ∀ (m i : Nat), i + 1 < List.length (lst bf bh kp s m) → cI ((lst bf bh kp s m).getD i []) 0 < cI ((lst bf bh kp s m).getD (i + 1) []) 0
  | 0, i, h => by simp [lst] at h
  | m + 1, i, h => by
    have ls : lst bf bh kp s (m + 1) = lst bf bh kp s m ++ (if 1 ≤ m ∧ PL bf bh kp s m then [row s m] else []) := rfl
    rw [ls] at h ⊢
    rcases Nat.lt_or_ge (i + 1) (lst bf bh kp s m).length with q | q
    · have := lst_inc (bf := bf) (bh := bh) (kp := kp) (s := s) m i q
      rw [List.getD_eq_getElem?_getD, List.getElem?_append_left (by omega), ← List.getD_eq_getElem?_getD, List.getD_eq_getElem?_getD (i := i + 1), List.getElem?_append_left q, ← List.getD_eq_getElem?_getD]
      exact this
    · by_cases c : 1 ≤ m ∧ PL bf bh kp s m
      · rw [if_pos c] at h ⊢
        have hi : i + 1 = (lst bf bh kp s m).length := by simp at h; omega
        obtain ⟨a, a1, a2, a3, a4⟩ := lst_row (bf := bf) (bh := bh) (kp := kp) (s := s) m i (by omega)
        rw [List.getD_eq_getElem?_getD, List.getElem?_append_left (by omega), ← List.getD_eq_getElem?_getD, a4, List.getD_eq_getElem?_getD, List.getElem?_append_right q, hi, Nat.sub_self]
        show (a : Int) < (m : Int)
        omega
      · rw [if_neg c] at h
        simp at h; omega
theorem PL_by {bf bh : Int} {kp : LD} {s : List UInt8} {a : Nat} (h : PL bf bh kp s a) (hb : 1 ≤ bh) (ha : a < s.length) : (by' s (a - 1) = 32 ∨ by' s (a - 1) = 45 ∨ by' s (a - 1) = 126) ∧ by' s a ≠ 32 := by
  rcases h with h | h | h
  · exact ⟨.inl h.1, h.2.2⟩
  · refine ⟨.inr (.inl h.1), fun e => ?_⟩
    have := h.2.2.2
    rw [e] at this
    unfold isW at this; revert this; decide
  · refine ⟨.inr (.inr h.1), fun e => ?_⟩
    have := h.2.2.2.2.1
    rw [FB_step s ha, e] at this
    unfold fo at this
    rw [if_neg (by unfold isL; decide), if_neg (by decide)] at this
    omega
set_option maxHeartbeats 1000000 in
theorem law4 (bf bh : Int) (kp : LD) (s : List UInt8) (hl : s.length ≤ 9223372036854775807) : SemF Try.prog 4 [.agg [.int .i64 bf, .int .i64 bh, .slc 0 1 0 kp.length], .str s] ⟨1, 1, [(0, .arr [.str] .ro (.recs kp))]⟩ (fun v _ => IsTrue v) := by
  refine enter tt_ok Try.func4 (nt := 80) (cd := body Try.f4) rfl rfl rfl rfl ?_
  intro _
  refine head_ok rfl Try.func9 (cd := body Try.f9) rfl ?_
  intro _
  refine call_pure [(0, some 0)] (usable_ok bf bh kp s hl) rfl rfl rfl ?_ ?_ ?_
  · (repeat' first | exact trivial | exact rfl | refine And.intro ?_ ?_)
  · (repeat' first | exact trivial | exact rfl | refine And.intro ?_ ?_)
  intro v hv _
  subst hv
  intro _; refine ⟨fun g => ?_, fun g => ?_⟩
  · intro _
    rfl
  have g : (!decide (US bf bh kp s)) = false := g
  rw [Bool.not_eq_false'] at g
  obtain ⟨hs3, hVB, hVA⟩ := of_decide_eq_true g
  have xE : LE bf bh kp s = 0 := by unfold brk.LE; rw [if_pos ⟨hVB, hVA⟩]
  have xS : LS bf bh kp s = lst bf bh kp s s.length := by unfold LS; rw [if_pos ⟨hVB, hVA⟩]
  have hLl := lst_len bf bh kp s s.length
  rw [← xS] at hLl
  intro _
  refine call_new [(0, some 0)] (List_ok bf bh kp s hl) rfl rfl rfl rfl ?_ ?_ ?_
  · (repeat' first | exact trivial | exact rfl | refine And.intro ?_ ?_)
  · (repeat' first | exact trivial | exact rfl | refine And.intro ?_ ?_)
  intro v h' hv
  obtain ⟨rfl, rfl⟩ := hv
  refine ⟨[(2, some 1)], 3, [(2, .arr [.int .i64, .bool] .grow (.recs (LS bf bh kp s)))], .tup [.grw 2 (LS bf bh kp s).length, .int .i64 (LE bf bh kp s)], rfl, rfl, rfl, rfl, rfl, ?_, ?_, ?_⟩
  · (repeat' first | exact trivial | exact rfl | refine And.intro ?_ ?_)
  · (repeat' first | exact trivial | exact rfl | refine And.intro ?_ ?_)
  intro _
  refine loop2 tt_ok [9, 8] [] 3 (fun i : { i : Nat // i ≤ (LS bf bh kp s).length } => [(9, .int .i64 (i.1 : Nat)), (8, .int .i64 (if i.1 = 0 then 0 else cI ((LS bf bh kp s).getD (i.1 - 1) []) 0))]) (fun _ => []) (fun i => (LS bf bh kp s).length - i.1) ⟨0, by omega⟩ ?_
  intro _
  refine ⟨⟨th [] 3, rfl, rfl, rfl, rfl, rfl, rfl, ?_, ?_⟩, ?_⟩
  · (repeat' first | exact trivial | exact rfl | refine And.intro ?_ ?_)
  · (repeat' first | exact trivial | exact rfl | refine And.intro ?_ ?_)
  intro ⟨i, h1⟩
  intro _; refine ⟨fun g => ?_, fun g => ?_⟩
  rotate_left
  · intro _
    show (LE bf bh kp s == 0) = true
    rw [xE]; rfl
  have g := of_decide_eq_true (show decide ((i : Int) < ((LS bf bh kp s).length : Int)) = true from g)
  obtain ⟨a, a1, a2, a3, a4⟩ := lst_row (bf := bf) (bh := bh) (kp := kp) (s := s) s.length i (by rw [← xS]; omega)
  rw [← xS] at a4
  have ea : cI ((LS bf bh kp s).getD (i : Int).toNat []) 0 = (a : Int) := by rw [Int.toNat_natCast, a4]; rfl
  have eh : cB ((LS bf bh kp s).getD (i : Int).toNat []) 1 = decide (HY s a) := by rw [Int.toNat_natCast, a4]; rfl
  obtain ⟨hc, hn⟩ := PL_by a3 hVB.2.1.1 a2
  have ew : IntKind.i64.wrap (cI ((LS bf bh kp s).getD (i : Int).toNat []) 0 - 1) = ((a - 1 : Nat) : Int) := by rw [ea, wrapS _ ⟨by omega, by omega⟩]; omega
  have ew' : (IntKind.i64.wrap (cI ((LS bf bh kp s).getD (i : Int).toNat []) 0 - 1)).toNat = a - 1 := by rw [ew]; omega
  have ea' : (cI ((LS bf bh kp s).getD (i : Int).toNat []) 0).toNat = a := by rw [ea]; omega
  intro _; refine ⟨show 0 ≤ (i : Int) ∧ (i : Int) < ((LS bf bh kp s).length : Int) by omega, ?_⟩
  intro _; refine ⟨show (i : Int).toNat < (LS bf bh kp s).length by omega, ?_⟩
  intro _; refine ⟨fun g => ?_, fun g => ?_⟩
  · exfalso
    have g2 := of_decide_eq_true (show decide (cI ((LS bf bh kp s).getD (i : Int).toNat []) 0 ≤ (if i = 0 then 0 else cI ((LS bf bh kp s).getD (i - 1) []) 0)) = true from g)
    rw [ea] at g2
    split at g2
    · omega
    · rename_i hi
      have := lst_inc (bf := bf) (bh := bh) (kp := kp) (s := s) s.length (i - 1) (by rw [← xS]; omega)
      rw [← xS, show i - 1 + 1 = i by omega, a4] at this
      have this : _ < (a : Int) := this
      omega
  intro _; refine ⟨fun g => ?_, fun g => ?_⟩
  · exfalso
    have g2 := of_decide_eq_true (show decide (cI ((LS bf bh kp s).getD (i : Int).toNat []) 0 ≥ (s.length : Int)) = true from g)
    rw [ea] at g2; omega
  intro _; refine ⟨show 0 ≤ IntKind.i64.wrap (cI ((LS bf bh kp s).getD (i : Int).toNat []) 0 - 1) ∧ IntKind.i64.wrap (cI ((LS bf bh kp s).getD (i : Int).toNat []) 0 - 1) < (s.length : Int) by rw [ew]; omega, ?_⟩
  have fin : ((⟨i + 1, by omega⟩ : { i : Nat // i ≤ (LS bf bh kp s).length }).1 = i + 1) := rfl
  intro _; refine ⟨fun g => ?_, fun g => ?_⟩
  · have g1 := bne_iff_ne.1 (show (by' s (IntKind.i64.wrap (cI ((LS bf bh kp s).getD (i : Int).toNat []) 0 - 1)).toNat != 32) = true from g)
    rw [ew'] at g1
    intro _; refine ⟨fun g => ?_, fun g => ?_⟩
    · have g2 := bne_iff_ne.1 (show (by' s (IntKind.i64.wrap (cI ((LS bf bh kp s).getD (i : Int).toNat []) 0 - 1)).toNat != 45) = true from g)
      rw [ew'] at g2
      intro _; refine ⟨fun g => ?_, fun g => ?_⟩
      · exfalso
        have g3 := bne_iff_ne.1 (show (by' s (IntKind.i64.wrap (cI ((LS bf bh kp s).getD (i : Int).toNat []) 0 - 1)).toNat != 126) = true from g)
        rw [ew'] at g3
        omega
      intro _; refine ⟨show 0 ≤ (i : Int) ∧ (i : Int) < ((LS bf bh kp s).length : Int) by omega, ?_⟩
      intro _; refine ⟨show (i : Int).toNat < (LS bf bh kp s).length by omega, ?_⟩
      intro _; refine ⟨fun g => ?_, fun g => ?_⟩
      · exfalso
        have g5 : (!(cB ((LS bf bh kp s).getD (i : Int).toNat []) 1 == (by' s (IntKind.i64.wrap (cI ((LS bf bh kp s).getD (i : Int).toNat []) 0 - 1)).toNat == 126))) = true := g
        rw [eh, ew', Bool.not_eq_true'] at g5
        have : decide (HY s a) = (by' s (a - 1) == 126) := by
          by_cases q : HY s a
          · rw [decide_eq_true q, show by' s (a - 1) = 126 from q]; rfl
          · rw [decide_eq_false q]; exact (beq_eq_false_iff_ne.2 q).symm
        rw [this] at g5
        simp at g5
      intro _; refine ⟨show 0 ≤ cI ((LS bf bh kp s).getD (i : Int).toNat []) 0 ∧ cI ((LS bf bh kp s).getD (i : Int).toNat []) 0 < (s.length : Int) by rw [ea]; omega, ?_⟩
      intro _; refine ⟨fun g => ?_, fun g => ?_⟩
      · exfalso
        have g6 := eq_of_beq (show (by' s (cI ((LS bf bh kp s).getD (i : Int).toNat []) 0).toNat == 32) = true from g)
        rw [ea'] at g6
        exact hn g6
      refine ⟨⟨i + 1, by omega⟩, by simp only []; omega, th [] 3, rfl, rfl, rfl, rfl, rfl, rfl, ?_, ?_⟩
      · (repeat' first | exact trivial | exact rfl | refine And.intro ?_ ?_)
        exact (wrap_nat i (by omega)).symm
      · (repeat' first | exact trivial | exact rfl | refine And.intro ?_ ?_)
    intro _; refine ⟨show 0 ≤ (i : Int) ∧ (i : Int) < ((LS bf bh kp s).length : Int) by omega, ?_⟩
    intro _; refine ⟨show (i : Int).toNat < (LS bf bh kp s).length by omega, ?_⟩
    intro _; refine ⟨fun g => ?_, fun g => ?_⟩
    · exfalso
      have g5 : (!(cB ((LS bf bh kp s).getD (i : Int).toNat []) 1 == (by' s (IntKind.i64.wrap (cI ((LS bf bh kp s).getD (i : Int).toNat []) 0 - 1)).toNat == 126))) = true := g
      rw [eh, ew', Bool.not_eq_true'] at g5
      have : decide (HY s a) = (by' s (a - 1) == 126) := by
        by_cases q : HY s a
        · rw [decide_eq_true q, show by' s (a - 1) = 126 from q]; rfl
        · rw [decide_eq_false q]; exact (beq_eq_false_iff_ne.2 q).symm
      rw [this] at g5
      simp at g5
    intro _; refine ⟨show 0 ≤ cI ((LS bf bh kp s).getD (i : Int).toNat []) 0 ∧ cI ((LS bf bh kp s).getD (i : Int).toNat []) 0 < (s.length : Int) by rw [ea]; omega, ?_⟩
    intro _; refine ⟨fun g => ?_, fun g => ?_⟩
    · exfalso
      have g6 := eq_of_beq (show (by' s (cI ((LS bf bh kp s).getD (i : Int).toNat []) 0).toNat == 32) = true from g)
      rw [ea'] at g6
      exact hn g6
    refine ⟨⟨i + 1, by omega⟩, by simp only []; omega, th [] 3, rfl, rfl, rfl, rfl, rfl, rfl, ?_, ?_⟩
    · (repeat' first | exact trivial | exact rfl | refine And.intro ?_ ?_)
      exact (wrap_nat i (by omega)).symm
    · (repeat' first | exact trivial | exact rfl | refine And.intro ?_ ?_)
  intro _; refine ⟨show 0 ≤ (i : Int) ∧ (i : Int) < ((LS bf bh kp s).length : Int) by omega, ?_⟩
  intro _; refine ⟨show (i : Int).toNat < (LS bf bh kp s).length by omega, ?_⟩
  intro _; refine ⟨fun g => ?_, fun g => ?_⟩
  · exfalso
    have g5 : (!(cB ((LS bf bh kp s).getD (i : Int).toNat []) 1 == (by' s (IntKind.i64.wrap (cI ((LS bf bh kp s).getD (i : Int).toNat []) 0 - 1)).toNat == 126))) = true := g
    rw [eh, ew', Bool.not_eq_true'] at g5
    have : decide (HY s a) = (by' s (a - 1) == 126) := by
      by_cases q : HY s a
      · rw [decide_eq_true q, show by' s (a - 1) = 126 from q]; rfl
      · rw [decide_eq_false q]; exact (beq_eq_false_iff_ne.2 q).symm
    rw [this] at g5
    simp at g5
  intro _; refine ⟨show 0 ≤ cI ((LS bf bh kp s).getD (i : Int).toNat []) 0 ∧ cI ((LS bf bh kp s).getD (i : Int).toNat []) 0 < (s.length : Int) by rw [ea]; omega, ?_⟩
  intro _; refine ⟨fun g => ?_, fun g => ?_⟩
  · exfalso
    have g6 := eq_of_beq (show (by' s (cI ((LS bf bh kp s).getD (i : Int).toNat []) 0).toNat == 32) = true from g)
    rw [ea'] at g6
    exact hn g6
  refine ⟨⟨i + 1, by omega⟩, by simp only []; omega, th [] 3, rfl, rfl, rfl, rfl, rfl, rfl, ?_, ?_⟩
  · (repeat' first | exact trivial | exact rfl | refine And.intro ?_ ?_)
    exact (wrap_nat i (by omega)).symm
  · (repeat' first | exact trivial | exact rfl | refine And.intro ?_ ?_)
set_option maxRecDepth 100000
def apre (n : Nat) : AC → AC
  | .ints l => .ints (l.take n)
  | .recs l => .recs (l.take n)
theorem rowAV_len : ∀ (ks : List CK) (j : Nat) (ds : List D), (rowAV ks j ds).length = ks.length
  | [], _, _ => rfl
  | c :: ks, j, ds => by simp [rowAV, rowAV_len ks (j + 1) ds]
theorem flat_take {g : List D → List Go.Vm.AV} {z : Nat} (hg : ∀ d, (g d).length = z) : ∀ (l : List (List D)) (n : Nat), n ≤ l.length → (l.flatMap g).take (n * z) = (l.take n).flatMap g
  | [], n, h => by
    have : n = 0 := by simpa using h
    subst this; simp
  | d :: l, 0, h => by simp
  | d :: l, n + 1, h => by
    have ih := flat_take hg l n (by simpa using h)
    simp only [List.flatMap_cons, List.take_succ_cons]
    have e : (n + 1) * z = (g d).length + n * z := by rw [hg, Nat.add_mul]; omega
    rw [e, List.take_length_add_append, ih]
theorem avs_take {ks : List CK} {a : AC} {n : Nat} (hk : ksOk ks a) (h : n ≤ a.len) : (a.avs ks).take (n * ks.length) = (apre n a).avs ks := by
  cases a with
  | ints l =>
    obtain ⟨k, rfl⟩ := hk
    simp only [AC.avs, apre, List.length_singleton, Nat.mul_one, List.map_take]
  | recs l =>
    simp only [AC.avs, apre]
    exact flat_take (fun d => rowAV_len ks 0 d) l n h
theorem apre_len {a : AC} {n : Nat} (h : n ≤ a.len) : (apre n a).len = n := by
  cases a <;> simp [apre, AC.len] at h ⊢ <;> omega
theorem row_pre {ks : List CK} {a : AC} {n B b0 : Nat} {r : Go.Vm.AO} (hk : ksOk ks a) (h : n ≤ a.len) (hr : RowOk .rd ks a B b0 r) : RowOk .rd ks (apre n a) B b0 r := by
  cases r <;> simp only [RowOk] at hr ⊢
  obtain ⟨h1, h2, h3⟩ := hr
  have hm : n * ks.length ≤ a.len * ks.length := Nat.mul_le_mul_right _ h
  refine ⟨h1, by rw [apre_len h]; omega, ?_⟩
  rw [apre_len h, ← avs_take hk h, ← h3, List.take_take]
  congr 1
  omega
def Pre (o o' : Ob) : Prop := o = o' ∨ ∃ ks a n, n ≤ a.len ∧ o = .arr ks .rd (apre n a) ∧ o' = .arr ks .rd a
theorem Pre.own {o o' : Ob} (h : Pre o o') : o.own = o'.own := by
  rcases h with rfl | ⟨ks, a, n, _, rfl, rfl⟩ <;> rfl
theorem Pre.live {o o' : Ob} (h : Pre o o') : o.live = o'.live := by
  rcases h with rfl | ⟨ks, a, n, _, rfl, rfl⟩ <;> rfl
theorem Pre.held {o o' : Ob} {n x : Nat} {ν : Nu} {g : Nat → Option Go.Vm.AO} (h : Pre o o') (hh : Go.Vm2.Held n ν x o' g) : Go.Vm2.Held n ν x o g := by
  rcases h with rfl | ⟨ks, a, m, hm, rfl, rfl⟩
  · exact hh
  · simp only [Go.Vm2.Held] at hh ⊢
    obtain ⟨k1, k2⟩ := hh
    refine ⟨?_, ?_⟩
    · cases a <;> exact k1
    · rcases k2 with ⟨k2, k3⟩ | ⟨B, b0, r, k2, k3, k4⟩
      · exact .inl ⟨k2, by rw [apre_len hm]; omega⟩
      · exact .inr ⟨B, b0, r, k2, k3, row_pre k1 hm k4⟩
theorem weak {fid : FuncId} {args : List V} {h h0 : H} {K : V → H → Prop} (hs : SemF Try.prog fid args h0 K) (hnx : h0.nx = h.nx) (hfz : h0.fz = h.fz) (hw : ∀ x o, h0.get x = some o → ∃ o', h.get x = some o' ∧ Pre o o') : SemF Try.prog fid args h K := by
  refine ⟨fun c ν s aa hR hA => ?_⟩
  have hR0 : R c ν h0 s := {
    ok := hR.ok
    obj := fun x o ho => by
      obtain ⟨o', h1, h2⟩ := hw x o ho
      rw [hnx]; exact h2.held (hR.obj x o' h1)
    lt := fun x o ho => by
      obtain ⟨o', h1, h2⟩ := hw x o ho
      rw [hnx]; exact hR.lt x o' h1
    sep := fun x y o o' B B' b b' hxy ho ho' hf hown hlive => by
      obtain ⟨p, h1, h2⟩ := hw x o ho
      obtain ⟨p', h3, h4⟩ := hw y o' ho'
      exact hR.sep x y p p' B B' b b' hxy h1 h3 (by rw [← hfz]; exact hf) (by rw [← h2.own]; exact hown) (by rw [← h4.live]; exact hlive)
    gsep := fun x o B b b' ho hf hown => by
      obtain ⟨p, h1, h2⟩ := hw x o ho
      exact hR.gsep x p B b b' h1 (by rw [← hfz]; exact hf) (by rw [← h2.own]; exact hown)
    froz := hR.froz
    kin := hR.kin
    th := fun D hD => by
      obtain ⟨k1, k2, k3, k4⟩ := hR.th D hD
      refine ⟨k1, k2, k3, fun x o B b ho hf hown => ?_⟩
      obtain ⟨p, h1, h2⟩ := hw x o ho
      exact k4 x p B b h1 (by rw [← hfz]; exact hf) (by rw [← h2.own]; exact hown)
    tc := hR.tc
    p_le := by rw [hnx]; exact hR.p_le
    lo_le := hR.lo_le
    new := fun x B b h1 h2 => hR.new x B b h1 (by rw [← hnx]; exact h2)
    blk := fun x B b h1 => hR.blk x B b (by rw [← hnx]; exact h1)
    snap := hR.snap }
  obtain ⟨N, a, s', v, h', ν', r1, r2, r3, r4, r5⟩ := hs.run c ν s aa hR0 (by rw [hnx]; exact hA)
  exact ⟨N, a, s', v, h', ν', r1, r2, r3, r4, ⟨fun x hx => r5.same x (by rw [hnx]; exact hx), by rw [← hnx]; exact r5.nx, by rw [← hfz]; exact r5.fz, r5.n, fun x B b h1 h2 => r5.new x B b (by rw [hnx]; exact h1) h2⟩⟩

theorem List_pre (bf bh : Int) (kp : LD) (n : Nat) (s : List UInt8) (hn : n ≤ kp.length) (hl : s.length ≤ 9223372036854775807) : SemF Try.prog 10 [.agg [.int .i64 bf, .int .i64 bh, .slc 0 1 0 n], .str s] ⟨1, 1, [(0, .arr [.str] .rd (.recs kp))]⟩ (LQ bf bh (kp.take n) s) := by
  have e : (kp.take n).length = n := by simp; omega
  have h := List_ok bf bh (kp.take n) s hl
  rw [e] at h
  refine weak h rfl rfl (fun x o hx => ?_)
  rw [show H.get ⟨1, 1, [(0, .arr [.str] .rd (.recs (kp.take n)))]⟩ x = if 0 = x then some (.arr [.str] .rd (.recs (kp.take n))) else none from by unfold H.get; rw [look_cons]; rfl] at hx
  rw [show H.get ⟨1, 1, [(0, .arr [.str] .rd (.recs kp))]⟩ x = if 0 = x then some (.arr [.str] .rd (.recs kp)) else none from by unfold H.get; rw [look_cons]; rfl]
  split at hx
  · rename_i q
    simp only [Option.some.injEq] at hx
    subst hx
    exact ⟨_, if_pos q, .inr ⟨[.str], .recs kp, n, hn, rfl, rfl⟩⟩
  · cases hx
/-! stricter rules -/
def qC (cf ch : Int) (kc : LD) (s : List UInt8) (r : List D) : Bool := decide (PL cf ch kc s (cI r 0).toNat)
theorem PL_less {bf bh cf ch : Int} {kp kc : LD} {s : List UInt8} {a : Nat} (h1 : bf ≤ cf) (h2 : bh ≤ ch) (h3 : ∀ x y, inK kp x y → inK kc x y) (h : PL cf ch kc s a) : PL bf bh kp s a := by
  rcases h with h | h | h
  · exact .inl h
  · exact .inr (.inl h)
  · obtain ⟨p1, p2, p3, p4, p5, p6⟩ := h
    exact .inr (.inr ⟨p1, p2, p3, by omega, by omega, fun q => p6 (h3 _ _ q)⟩)
theorem PL_stay {bf bh cf ch : Int} {kp kc : LD} {s : List UInt8} {a : Nat} (h : PL bf bh kp s a) (hn : ¬ HY s a) : PL cf ch kc s a := by
  rcases h with h | h | h
  · exact .inl h
  · exact .inr (.inl h)
  · exact absurd h.1 hn
theorem lst_fil {bf bh cf ch : Int} {kp kc : LD} {s : List UInt8} (h1 : bf ≤ cf) (h2 : bh ≤ ch) (h3 : ∀ x y, inK kp x y → inK kc x y) : ∀ m, lst cf ch kc s m = (lst bf bh kp s m).filter (qC cf ch kc s)
  | 0 => rfl
  | m + 1 => by
    simp only [lst]
    rw [List.filter_append, lst_fil h1 h2 h3 m]
    congr 1
    have e : qC cf ch kc s [.n (m : Int), .b (decide (HY s m))] = decide (PL cf ch kc s m) := by
      unfold qC cI
      simp [D.int]
    by_cases c : 1 ≤ m ∧ PL cf ch kc s m
    · rw [if_pos c, if_pos ⟨c.1, PL_less h1 h2 h3 c.2⟩, List.filter_cons, e, if_pos (decide_eq_true c.2)]
      rfl
    · rw [if_neg c]
      by_cases d : 1 ≤ m ∧ PL bf bh kp s m
      · rw [if_pos d, List.filter_cons, e, if_neg (by simpa using fun w => c ⟨d.1, w⟩)]
        rfl
      · rw [if_neg d]; rfl
theorem fil_split {x : LD} {q : List D → Bool} (i : Nat) : x.filter q = (x.take i).filter q ++ (x.drop i).filter q := by
  rw [← List.filter_append, List.take_append_drop]
theorem fil_at {x : LD} {q : List D → Bool} {i : Nat} (h : i < x.length) (hq : q (x.getD i []) = true) : ((x.take i).filter q).length < (x.filter q).length ∧ (x.filter q).getD ((x.take i).filter q).length [] = x.getD i [] := by
  have e : x.getD i [] = x[i] := by rw [List.getD_eq_getElem?_getD, List.getElem?_eq_getElem h]; rfl
  have ed : (x.drop i).filter q = x[i] :: (x.drop (i + 1)).filter q := by
    rw [List.drop_eq_getElem_cons h, List.filter_cons, if_pos (by rw [← e]; exact hq)]
  have e2 := fil_split (x := x) (q := q) i
  rw [ed] at e2
  rw [e2]
  refine ⟨by simp, ?_⟩
  rw [List.getD_eq_getElem?_getD, List.getElem?_append_right (Nat.le_refl _), Nat.sub_self, e]
  rfl
theorem fil_take {x : LD} {q : List D → Bool} {i : Nat} (h : i < x.length) : ((x.take (i + 1)).filter q).length = ((x.take i).filter q).length + (if q (x.getD i []) = true then 1 else 0) := by
  have e : x.getD i [] = x[i] := by rw [List.getD_eq_getElem?_getD, List.getElem?_eq_getElem h]; rfl
  rw [List.take_succ_eq_append_getElem h, List.filter_append, List.length_append, e]
  congr 1
  simp only [List.filter_cons, List.filter_nil]
  split <;> rfl
theorem fil_mem {x : LD} {q : List D → Bool} {k : Nat} (h : k < (x.filter q).length) : q ((x.filter q).getD k []) = true := by
  have hin : (x.filter q).getD k [] ∈ x.filter q := by
    rw [List.getD_eq_getElem?_getD, List.getElem?_eq_getElem h]; exact List.getElem_mem h
  exact (List.mem_filter.1 hin).2
theorem q_eq {cf ch : Int} {kc : LD} {s : List UInt8} {r r' : List D} (h : cI r 0 = cI r' 0) : qC cf ch kc s r = qC cf ch kc s r' := by
  unfold qC; rw [h]
theorem st_facts {bf bh cf ch : Int} {kp kc : LD} {s : List UInt8} (hVB : VB bf bh kp) (hVC : VB cf ch kc) (hVA : VA s) (h1 : bf ≤ cf) (h2 : bh ≤ ch) (h3 : ∀ x y, inK kp x y → inK kc x y) :
    ∃ kk : Nat → Nat, kk 0 = 0 ∧ kk (LS bf bh kp s).length = (LS cf ch kc s).length ∧ ∀ i, i < (LS bf bh kp s).length → kk i ≤ i ∧
      ((kk (i + 1) = kk i + 1 ∧ kk i < (LS cf ch kc s).length ∧ cI ((LS cf ch kc s).getD (kk i) []) 0 = cI ((LS bf bh kp s).getD i []) 0 ∧ cB ((LS cf ch kc s).getD (kk i) []) 1 = cB ((LS bf bh kp s).getD i []) 1) ∨
       (kk (i + 1) = kk i ∧ cB ((LS bf bh kp s).getD i []) 1 = true ∧ (kk i < (LS cf ch kc s).length → cI ((LS cf ch kc s).getD (kk i) []) 0 ≠ cI ((LS bf bh kp s).getD i []) 0))) := by
  have xB : LS bf bh kp s = lst bf bh kp s s.length := by unfold LS; rw [if_pos ⟨hVB, hVA⟩]
  have xC : LS cf ch kc s = (LS bf bh kp s).filter (qC cf ch kc s) := by
    rw [xB]; unfold LS; rw [if_pos ⟨hVC, hVA⟩]; exact lst_fil h1 h2 h3 _
  refine ⟨fun i => (((LS bf bh kp s).take i).filter (qC cf ch kc s)).length, rfl, by simp only []; rw [List.take_length, ← xC], fun i hi => ⟨Nat.le_trans (List.length_filter_le _ _) (by simp; omega), ?_⟩⟩
  obtain ⟨a, a1, a2, a3, a4⟩ := lst_row (bf := bf) (bh := bh) (kp := kp) (s := s) s.length i (by rw [← xB]; exact hi)
  rw [← xB] at a4
  have qe : qC cf ch kc s ((LS bf bh kp s).getD i []) = decide (PL cf ch kc s a) := by rw [a4]; unfold qC row cI; simp [D.int]
  have ft := fil_take (q := qC cf ch kc s) hi
  have eHy : cB ((LS bf bh kp s).getD i []) 1 = decide (HY s a) := by rw [a4]; rfl
  by_cases hp : PL cf ch kc s a
  · left
    have fa := fil_at (q := qC cf ch kc s) hi (by rw [qe]; exact decide_eq_true hp)
    rw [← xC] at fa
    refine ⟨?_, fa.1, by rw [fa.2], by rw [fa.2]⟩
    simp only []
    rw [ft, qe, if_pos (decide_eq_true hp)]
  · right
    refine ⟨?_, ?_, fun hk e => ?_⟩
    · simp only []
      rw [ft, qe, if_neg (by simpa using hp)]; rfl
    · rw [eHy]; exact decide_eq_true (Decidable.byContradiction fun w => hp (PL_stay a3 w))
    · have hm := fil_mem (x := LS bf bh kp s) (q := qC cf ch kc s) (k := (((LS bf bh kp s).take i).filter (qC cf ch kc s)).length) (by rw [← xC]; exact hk)
      rw [← xC] at hm
      simp only [] at e
      rw [q_eq e, qe] at hm
      exact hp (of_decide_eq_true hm)
theorem inK_more {kp : LD} {k : List UInt8} {x y : Int} (h : inK kp x y) : inK (kp ++ [[.s k]]) x y := by
  obtain ⟨i, a, b⟩ := h
  refine ⟨i, by simp; omega, ?_⟩
  have e : (kp ++ [[D.s k]]).getD i [] = kp.getD i [] := by
    rw [List.getD_eq_getElem?_getD, List.getElem?_append_left a, ← List.getD_eq_getElem?_getD]
  have : kS (kp ++ [[.s k]]) i = kS kp i := by
    unfold kS; rw [e]
  rw [this]; exact b
theorem mod3 {a : Int} (h : 0 ≤ a ∧ a ≤ 255) : 0 ≤ (IntKind.i64.wrap a).tmod 3 ∧ (IntKind.i64.wrap a).tmod 3 < 3 := by
  rw [wrapS a ⟨by omega, by omega⟩]
  exact ⟨Int.tmod_nonneg 3 h.1, Int.tmod_lt_of_pos a (by decide)⟩
theorem LS_len (bf bh : Int) (kp : LD) (s : List UInt8) : (LS bf bh kp s).length ≤ 2000 := by
  unfold LS
  split
  · rename_i h
    have := lst_len bf bh kp s s.length
    have := h.2.1
    omega
  · simp
set_option maxHeartbeats 4000000 in
theorem law7 (bf bh : Int) (kp : LD) (s : List UInt8) (be bi : Int) (k : List UInt8) (hl : s.length ≤ 9223372036854775807) (h_be : 0 ≤ be ∧ be ≤ 255) (h_bi : 0 ≤ bi ∧ bi ≤ 255) : SemF Try.prog 7 [.agg [.int .i64 bf, .int .i64 bh, .slc 0 1 0 kp.length], .str s, .int .u8 be, .int .u8 bi, .str k] ⟨1, 1, [(0, .arr [.str] .ro (.recs kp))]⟩ (fun v _ => IsTrue v) := by
  refine enter tt_ok Try.func7 (nt := 116) (cd := body Try.f7) rfl rfl rfl rfl ?_
  intro _
  refine head_ok rfl Try.func9 (cd := body Try.f9) rfl ?_
  intro _
  refine call_pure [(0, some 0)] (usable_ok bf bh kp s hl) rfl rfl rfl ?_ ?_ ?_
  · (repeat' first | exact trivial | exact rfl | refine And.intro ?_ ?_)
  · (repeat' first | exact trivial | exact rfl | refine And.intro ?_ ?_)
  intro v hv _
  subst hv
  intro _; refine ⟨fun g => ?_, fun g => ?_⟩
  · intro _
    rfl
  have g : (!decide (US bf bh kp s)) = false := g
  rw [Bool.not_eq_false'] at g
  obtain ⟨hs3, hVB, hVA⟩ := of_decide_eq_true g
  have hb1 := hVB.1
  have hb2 := hVB.2.1
  have hk20 := hVB.2.2.1
  have hb3 := hb1.1
  have hb4 := hb1.2
  have hb5 := hb2.1
  have hb6 := hb2.2
  have m1 := mod3 h_be
  have m2 := mod3 h_bi
  have w1 : IntKind.i64.wrap (bf + (IntKind.i64.wrap be).tmod 3) = bf + (IntKind.i64.wrap be).tmod 3 := wrapS _ ⟨by omega, by omega⟩
  have w2 : IntKind.i64.wrap (bh + (IntKind.i64.wrap bi).tmod 3) = bh + (IntKind.i64.wrap bi).tmod 3 := wrapS _ ⟨by omega, by omega⟩
  obtain ⟨cf, hcf⟩ : ∃ x, x = (min 5 (IntKind.i64.wrap (bf + (IntKind.i64.wrap be).tmod 3))) := ⟨_, rfl⟩
  obtain ⟨ch, hch⟩ : ∃ x, x = (min 5 (IntKind.i64.wrap (bh + (IntKind.i64.wrap bi).tmod 3))) := ⟨_, rfl⟩
  have hc1 : bf ≤ cf := by rw [hcf, w1]; omega
  have hc2 : bh ≤ ch := by rw [hch, w2]; omega
  have hc3 : cf ≤ 5 := by rw [hcf]; omega
  have hc4 : ch ≤ 5 := by rw [hch]; omega
  intro _; refine ⟨by decide, ?_⟩
  intro _; refine ⟨by decide, ?_⟩
  intro _
  refine Or.inl ?_
  intro _; refine ⟨show 0 + kp.length ≤ kp.length by omega, ?_⟩
  intro _; refine ⟨fun g0 => ?_, fun g0 => ?_⟩
  · have h0 : kp.length = 0 := Nat.eq_of_beq_eq_true g0
    have h0' : kp = [] := List.length_eq_zero_iff.1 h0
    intro _; refine ⟨by kernel_rfl, ?_⟩
    intro _; refine ⟨rfl, ?_⟩
    intro _; refine ⟨fun g3 => by simp at g3, fun _ => ?_⟩
    refine ⟨⟨rfl, by decide, by decide⟩, ?_⟩
    intro _
    refine call_pure [(0, some 5)] (rValid_ok cf ch (kp ++ [[.s k]])) rfl rfl rfl ?_ ?_ ?_
    · (repeat' first | exact trivial | exact rfl | refine And.intro ?_ ?_)
      all_goals (rw [h0']; (repeat' first | exact trivial | exact rfl | refine And.intro ?_ ?_))
    · (repeat' first | exact trivial | exact rfl | refine And.intro ?_ ?_)
      all_goals (first | exact hcf | exact hch | (rw [h0']; rfl) | rfl)
    intro v hv _
    subst hv
    intro _; refine ⟨fun g => ?_, fun g => ?_⟩
    · have gV : ¬ VB cf ch (kp ++ [[.s k]]) := by
        have := show (!decide (VB cf ch (kp ++ [[.s k]]))) = true from g
        rw [Bool.not_eq_true'] at this; exact of_decide_eq_false this
      intro _; refine ⟨show 0 ≤ (0 : Int) ∧ (0 : Int) ≤ (kp.length : Int) ∧ (kp.length : Int) ≤ ((0 + 1 : Nat) : Int) ∧ (0 : Int) < ((0 + 1 : Nat) : Int) by omega, ?_⟩
      have tk : (kp ++ [[D.s k]]).take kp.length = kp := by simp
      have hVC : VB cf ch kp := ⟨⟨by omega, by omega⟩, ⟨by omega, by omega⟩, hVB.2.2⟩
      have yB : LE bf bh kp s = 0 := by unfold brk.LE; rw [if_pos ⟨hVB, hVA⟩]
      have yC : LE cf ch kp s = 0 := by unfold brk.LE; rw [if_pos ⟨hVC, hVA⟩]
      obtain ⟨kk, k0, kn, ks⟩ := st_facts hVB hVC hVA hc1 hc2 (fun _ _ h => h)
      have hlB := LS_len bf bh kp s
      have hlC := LS_len cf ch kp s
      have cB' := List_ok bf bh kp s hl
      have cC' := List_pre cf ch (kp ++ [[D.s k]]) kp.length s (by simp) hl
      rw [tk] at cC'
      unfold LQ at cB' cC'
      rw [yB] at cB'
      rw [yC] at cC'
      clear yB yC
      generalize LS bf bh kp s = LB at cB' kn ks hlB
      generalize LS cf ch kp s = LC at cC' kn ks hlC
      intro _
      refine call_new [(0, some 0)] (cB') rfl rfl rfl rfl ?_ ?_ ?_
      · (repeat' first | exact trivial | exact rfl | refine And.intro ?_ ?_)
      · (repeat' first | exact trivial | exact rfl | refine And.intro ?_ ?_)
      intro v h' hv
      obtain ⟨rfl, rfl⟩ := hv
      refine ⟨[(6, some 1)], 7, [(6, .arr [.int .i64, .bool] .grow (.recs LB))], .tup [.grw 6 LB.length, .int .i64 0], rfl, rfl, rfl, rfl, rfl, ?_, ?_, ?_⟩
      · (repeat' first | exact trivial | exact rfl | refine And.intro ?_ ?_)
      · (repeat' first | exact trivial | exact rfl | refine And.intro ?_ ?_)
      intro _
      refine call_new [(0, some 5)] (cC') rfl rfl rfl rfl ?_ ?_ ?_
      · (repeat' first | exact trivial | exact rfl | refine And.intro ?_ ?_)
        all_goals (rw [h0']; (repeat' first | exact trivial | exact rfl | refine And.intro ?_ ?_))
      · (repeat' first | exact trivial | exact rfl | refine And.intro ?_ ?_)
        all_goals (first | exact hcf | exact hch | rfl)
      intro v h' hv
      obtain ⟨rfl, rfl⟩ := hv
      refine ⟨[(7, some 1)], 8, [(7, .arr [.int .i64, .bool] .grow (.recs LC))], .tup [.grw 7 LC.length, .int .i64 0], rfl, rfl, rfl, rfl, rfl, ?_, ?_, ?_⟩
      · (repeat' first | exact trivial | exact rfl | refine And.intro ?_ ?_)
      · (repeat' first | exact trivial | exact rfl | refine And.intro ?_ ?_)
      intro _
      refine loop2 tt_ok [18, 17] [] 8 (fun i : { i : Nat // i ≤ LB.length } => [(18, .int .i64 (i.1 : Nat)), (17, .int .i64 (kk i.1 : Nat))]) (fun _ => []) (fun i => LB.length - i.1) ⟨0, by omega⟩ ?_
      intro _
      refine ⟨⟨th [] 8, rfl, rfl, rfl, rfl, rfl, rfl, ?_, ?_⟩, ?_⟩
      · (repeat' first | exact trivial | exact rfl | refine And.intro ?_ ?_)
        exact (show ((kk 0 : Nat) : Int) = 0 by rw [k0]; rfl)
      · (repeat' first | exact trivial | exact rfl | refine And.intro ?_ ?_)
      intro ⟨i, hi⟩
      intro _; refine ⟨fun g => ?_, fun g => ?_⟩
      rotate_left
      · have g := of_decide_eq_false (show decide ((i : Int) < (LB.length : Int)) = false from g)
        have hie : i = LB.length := by omega
        subst hie
        intro _; refine ⟨fun _ => ?_, fun g => absurd (show ((0 : Int) == 0) = false from g) (by decide)⟩
        intro _; refine ⟨fun _ => ?_, fun g => absurd (show ((0 : Int) == 0) = false from g) (by decide)⟩
        intro _
        show ((kk LB.length : Int) == (LC.length : Int)) = true
        rw [kn]
        exact beq_self_eq_true _
      have g := of_decide_eq_true (show decide ((i : Int) < (LB.length : Int)) = true from g)
      have hil : i < LB.length := by omega
      obtain ⟨kl, kc'⟩ := ks i hil
      intro _; refine ⟨fun g => ?_, fun g => ?_⟩
      rotate_left
      · have g2 := of_decide_eq_false (show decide ((kk i : Int) < (LC.length : Int)) = false from g)
        have kd : kk (i + 1) = kk i ∧ cB (LB.getD i []) 1 = true := by
          rcases kc' with q | q
          · omega
          · exact ⟨q.1, q.2.1⟩
        intro _; refine ⟨by kernel_rfl, ?_⟩
        intro _; refine ⟨show 0 ≤ (i : Int) ∧ (i : Int) < (LB.length : Int) by omega, ?_⟩
        intro _; refine ⟨show (i : Int).toNat < LB.length by omega, ?_⟩
        intro _; refine ⟨fun g => ?_, fun g => ?_⟩
        · exfalso
          have g5 : (!cB (LB.getD (i : Int).toNat []) 1) = true := g
          rw [Int.toNat_natCast, kd.2] at g5
          cases g5
        refine ⟨⟨i + 1, by omega⟩, by simp only []; omega, th [] 8, rfl, rfl, rfl, rfl, rfl, rfl, ?_, ?_⟩
        · (repeat' first | exact trivial | exact rfl | refine And.intro ?_ ?_)
          · exact (wrap_nat i (by omega)).symm
          · exact (show ((kk (i + 1) : Nat) : Int) = (kk i : Int) by rw [kd.1])
        · (repeat' first | exact trivial | exact rfl | refine And.intro ?_ ?_)
      have g2 := of_decide_eq_true (show decide ((kk i : Int) < (LC.length : Int)) = true from g)
      intro _; refine ⟨show 0 ≤ (kk i : Int) ∧ (kk i : Int) < (LC.length : Int) by omega, ?_⟩
      intro _; refine ⟨show (kk i : Int).toNat < LC.length by omega, ?_⟩
      intro _; refine ⟨show 0 ≤ (i : Int) ∧ (i : Int) < (LB.length : Int) by omega, ?_⟩
      intro _; refine ⟨show (i : Int).toNat < LB.length by omega, ?_⟩
      intro _; refine ⟨by kernel_rfl, ?_⟩
      intro _; refine ⟨fun g => ?_, fun g => ?_⟩
      · have g3 : ((cI (LC.getD (kk i : Int).toNat []) 0 == cI (LB.getD (i : Int).toNat []) 0) && (cB (LC.getD (kk i : Int).toNat []) 1 == cB (LB.getD (i : Int).toNat []) 1)) = true := g
        rw [Int.toNat_natCast, Int.toNat_natCast, Bool.and_eq_true] at g3
        have g4 := eq_of_beq g3.1
        have kd : kk (i + 1) = kk i + 1 := by
          rcases kc' with q | q
          · exact q.1
          · exact absurd g4 (q.2.2 (by omega))
        refine ⟨⟨i + 1, by omega⟩, by simp only []; omega, th [] 8, rfl, rfl, rfl, rfl, rfl, rfl, ?_, ?_⟩
        · (repeat' first | exact trivial | exact rfl | refine And.intro ?_ ?_)
          · exact (wrap_nat i (by omega)).symm
          · exact (show ((kk (i + 1) : Nat) : Int) = IntKind.i64.wrap ((kk i : Int) + 1) by rw [kd]; exact (wrap_nat _ (by omega)).symm)
        · (repeat' first | exact trivial | exact rfl | refine And.intro ?_ ?_)
      have g3 : ((cI (LC.getD (kk i : Int).toNat []) 0 == cI (LB.getD (i : Int).toNat []) 0) && (cB (LC.getD (kk i : Int).toNat []) 1 == cB (LB.getD (i : Int).toNat []) 1)) = false := g
      rw [Int.toNat_natCast, Int.toNat_natCast] at g3
      have kd : kk (i + 1) = kk i ∧ cB (LB.getD i []) 1 = true := by
        rcases kc' with q | q
        · rw [q.2.2.1, q.2.2.2] at g3
          simp at g3
        · exact ⟨q.1, q.2.1⟩
      intro _; refine ⟨show 0 ≤ (i : Int) ∧ (i : Int) < (LB.length : Int) by omega, ?_⟩
      intro _; refine ⟨show (i : Int).toNat < LB.length by omega, ?_⟩
      intro _; refine ⟨fun g => ?_, fun g => ?_⟩
      · exfalso
        have g5 : (!cB (LB.getD (i : Int).toNat []) 1) = true := g
        rw [Int.toNat_natCast, kd.2] at g5
        cases g5
      refine ⟨⟨i + 1, by omega⟩, by simp only []; omega, th [] 8, rfl, rfl, rfl, rfl, rfl, rfl, ?_, ?_⟩
      · (repeat' first | exact trivial | exact rfl | refine And.intro ?_ ?_)
        · exact (wrap_nat i (by omega)).symm
        · exact (show ((kk (i + 1) : Nat) : Int) = (kk i : Int) by rw [kd.1])
      · (repeat' first | exact trivial | exact rfl | refine And.intro ?_ ?_)
    have gV : VB cf ch (kp ++ [[.s k]]) := by
      have := show (!decide (VB cf ch (kp ++ [[.s k]]))) = false from g
      rw [Bool.not_eq_false'] at this; exact of_decide_eq_true this
    have hVC : VB cf ch (kp ++ [[.s k]]) := gV
    have yB : LE bf bh kp s = 0 := by unfold brk.LE; rw [if_pos ⟨hVB, hVA⟩]
    have yC : LE cf ch (kp ++ [[.s k]]) s = 0 := by unfold brk.LE; rw [if_pos ⟨hVC, hVA⟩]
    obtain ⟨kk, k0, kn, ks⟩ := st_facts hVB hVC hVA hc1 hc2 (fun _ _ h => inK_more h)
    have hlB := LS_len bf bh kp s
    have hlC := LS_len cf ch (kp ++ [[.s k]]) s
    have cB' := List_ok bf bh kp s hl
    have cC' := List_ok cf ch (kp ++ [[.s k]]) s hl
    unfold LQ at cB' cC'
    rw [yB] at cB'
    rw [yC] at cC'
    clear yB yC
    generalize LS bf bh kp s = LB at cB' kn ks hlB
    generalize LS cf ch (kp ++ [[.s k]]) s = LC at cC' kn ks hlC
    intro _
    refine call_new [(0, some 0)] (cB') rfl rfl rfl rfl ?_ ?_ ?_
    · (repeat' first | exact trivial | exact rfl | refine And.intro ?_ ?_)
    · (repeat' first | exact trivial | exact rfl | refine And.intro ?_ ?_)
    intro v h' hv
    obtain ⟨rfl, rfl⟩ := hv
    refine ⟨[(6, some 1)], 7, [(6, .arr [.int .i64, .bool] .grow (.recs LB))], .tup [.grw 6 LB.length, .int .i64 0], rfl, rfl, rfl, rfl, rfl, ?_, ?_, ?_⟩
    · (repeat' first | exact trivial | exact rfl | refine And.intro ?_ ?_)
    · (repeat' first | exact trivial | exact rfl | refine And.intro ?_ ?_)
    intro _
    refine call_new [(0, some 5)] (cC') rfl rfl rfl rfl ?_ ?_ ?_
    · (repeat' first | exact trivial | exact rfl | refine And.intro ?_ ?_)
      all_goals (rw [h0']; (repeat' first | exact trivial | exact rfl | refine And.intro ?_ ?_))
    · (repeat' first | exact trivial | exact rfl | refine And.intro ?_ ?_)
      all_goals (first | exact hcf | exact hch | (rw [h0']; rfl) | rfl)
    intro v h' hv
    obtain ⟨rfl, rfl⟩ := hv
    refine ⟨[(7, some 1)], 8, [(7, .arr [.int .i64, .bool] .grow (.recs LC))], .tup [.grw 7 LC.length, .int .i64 0], rfl, rfl, rfl, rfl, rfl, ?_, ?_, ?_⟩
    · (repeat' first | exact trivial | exact rfl | refine And.intro ?_ ?_)
    · (repeat' first | exact trivial | exact rfl | refine And.intro ?_ ?_)
    intro _
    refine loop2 tt_ok [18, 17] [] 8 (fun i : { i : Nat // i ≤ LB.length } => [(18, .int .i64 (i.1 : Nat)), (17, .int .i64 (kk i.1 : Nat))]) (fun _ => []) (fun i => LB.length - i.1) ⟨0, by omega⟩ ?_
    intro _
    refine ⟨⟨th [] 8, rfl, rfl, rfl, rfl, rfl, rfl, ?_, ?_⟩, ?_⟩
    · (repeat' first | exact trivial | exact rfl | refine And.intro ?_ ?_)
      exact (show ((kk 0 : Nat) : Int) = 0 by rw [k0]; rfl)
    · (repeat' first | exact trivial | exact rfl | refine And.intro ?_ ?_)
    intro ⟨i, hi⟩
    intro _; refine ⟨fun g => ?_, fun g => ?_⟩
    rotate_left
    · have g := of_decide_eq_false (show decide ((i : Int) < (LB.length : Int)) = false from g)
      have hie : i = LB.length := by omega
      subst hie
      intro _; refine ⟨fun _ => ?_, fun g => absurd (show ((0 : Int) == 0) = false from g) (by decide)⟩
      intro _; refine ⟨fun _ => ?_, fun g => absurd (show ((0 : Int) == 0) = false from g) (by decide)⟩
      intro _
      show ((kk LB.length : Int) == (LC.length : Int)) = true
      rw [kn]
      exact beq_self_eq_true _
    have g := of_decide_eq_true (show decide ((i : Int) < (LB.length : Int)) = true from g)
    have hil : i < LB.length := by omega
    obtain ⟨kl, kc'⟩ := ks i hil
    intro _; refine ⟨fun g => ?_, fun g => ?_⟩
    rotate_left
    · have g2 := of_decide_eq_false (show decide ((kk i : Int) < (LC.length : Int)) = false from g)
      have kd : kk (i + 1) = kk i ∧ cB (LB.getD i []) 1 = true := by
        rcases kc' with q | q
        · omega
        · exact ⟨q.1, q.2.1⟩
      intro _; refine ⟨by kernel_rfl, ?_⟩
      intro _; refine ⟨show 0 ≤ (i : Int) ∧ (i : Int) < (LB.length : Int) by omega, ?_⟩
      intro _; refine ⟨show (i : Int).toNat < LB.length by omega, ?_⟩
      intro _; refine ⟨fun g => ?_, fun g => ?_⟩
      · exfalso
        have g5 : (!cB (LB.getD (i : Int).toNat []) 1) = true := g
        rw [Int.toNat_natCast, kd.2] at g5
        cases g5
      refine ⟨⟨i + 1, by omega⟩, by simp only []; omega, th [] 8, rfl, rfl, rfl, rfl, rfl, rfl, ?_, ?_⟩
      · (repeat' first | exact trivial | exact rfl | refine And.intro ?_ ?_)
        · exact (wrap_nat i (by omega)).symm
        · exact (show ((kk (i + 1) : Nat) : Int) = (kk i : Int) by rw [kd.1])
      · (repeat' first | exact trivial | exact rfl | refine And.intro ?_ ?_)
    have g2 := of_decide_eq_true (show decide ((kk i : Int) < (LC.length : Int)) = true from g)
    intro _; refine ⟨show 0 ≤ (kk i : Int) ∧ (kk i : Int) < (LC.length : Int) by omega, ?_⟩
    intro _; refine ⟨show (kk i : Int).toNat < LC.length by omega, ?_⟩
    intro _; refine ⟨show 0 ≤ (i : Int) ∧ (i : Int) < (LB.length : Int) by omega, ?_⟩
    intro _; refine ⟨show (i : Int).toNat < LB.length by omega, ?_⟩
    intro _; refine ⟨by kernel_rfl, ?_⟩
    intro _; refine ⟨fun g => ?_, fun g => ?_⟩
    · have g3 : ((cI (LC.getD (kk i : Int).toNat []) 0 == cI (LB.getD (i : Int).toNat []) 0) && (cB (LC.getD (kk i : Int).toNat []) 1 == cB (LB.getD (i : Int).toNat []) 1)) = true := g
      rw [Int.toNat_natCast, Int.toNat_natCast, Bool.and_eq_true] at g3
      have g4 := eq_of_beq g3.1
      have kd : kk (i + 1) = kk i + 1 := by
        rcases kc' with q | q
        · exact q.1
        · exact absurd g4 (q.2.2 (by omega))
      refine ⟨⟨i + 1, by omega⟩, by simp only []; omega, th [] 8, rfl, rfl, rfl, rfl, rfl, rfl, ?_, ?_⟩
      · (repeat' first | exact trivial | exact rfl | refine And.intro ?_ ?_)
        · exact (wrap_nat i (by omega)).symm
        · exact (show ((kk (i + 1) : Nat) : Int) = IntKind.i64.wrap ((kk i : Int) + 1) by rw [kd]; exact (wrap_nat _ (by omega)).symm)
      · (repeat' first | exact trivial | exact rfl | refine And.intro ?_ ?_)
    have g3 : ((cI (LC.getD (kk i : Int).toNat []) 0 == cI (LB.getD (i : Int).toNat []) 0) && (cB (LC.getD (kk i : Int).toNat []) 1 == cB (LB.getD (i : Int).toNat []) 1)) = false := g
    rw [Int.toNat_natCast, Int.toNat_natCast] at g3
    have kd : kk (i + 1) = kk i ∧ cB (LB.getD i []) 1 = true := by
      rcases kc' with q | q
      · rw [q.2.2.1, q.2.2.2] at g3
        simp at g3
      · exact ⟨q.1, q.2.1⟩
    intro _; refine ⟨show 0 ≤ (i : Int) ∧ (i : Int) < (LB.length : Int) by omega, ?_⟩
    intro _; refine ⟨show (i : Int).toNat < LB.length by omega, ?_⟩
    intro _; refine ⟨fun g => ?_, fun g => ?_⟩
    · exfalso
      have g5 : (!cB (LB.getD (i : Int).toNat []) 1) = true := g
      rw [Int.toNat_natCast, kd.2] at g5
      cases g5
    refine ⟨⟨i + 1, by omega⟩, by simp only []; omega, th [] 8, rfl, rfl, rfl, rfl, rfl, rfl, ?_, ?_⟩
    · (repeat' first | exact trivial | exact rfl | refine And.intro ?_ ?_)
      · exact (wrap_nat i (by omega)).symm
      · exact (show ((kk (i + 1) : Nat) : Int) = (kk i : Int) by rw [kd.1])
    · (repeat' first | exact trivial | exact rfl | refine And.intro ?_ ?_)
  have h0 : kp.length ≠ 0 := fun e => by rw [e] at g0; cases g0
  refine ⟨⟨rfl, show 0 + kp.length ≤ 4611686018427387904 by omega, show (0 + kp.length) * 16 ≤ 140737488355328 by omega⟩, ?_⟩
  intro _; refine ⟨by kernel_rfl, ?_⟩
  intro _; refine ⟨rfl, ?_⟩
  intro _; refine ⟨fun g3 => by simp at g3, fun _ => ?_⟩
  refine ⟨⟨by simp [AC.len], show 0 + kp.length + 1 ≤ 4611686018427387904 by omega, show (0 + kp.length + 1) * 16 ≤ 140737488355328 by omega⟩, ?_⟩
  intro _
  refine call_pure [(0, some 6)] (rValid_ok cf ch (kp ++ [[.s k]])) rfl rfl rfl ?_ ?_ ?_
  · (repeat' first | exact trivial | exact rfl | refine And.intro ?_ ?_)
    exact (show kp ++ [[D.s k]] = [] ++ (kp.drop 0).take kp.length ++ [[D.s k]] by simp)
  · (repeat' first | exact trivial | exact rfl | refine And.intro ?_ ?_)
    all_goals (first | exact hcf | exact hch | exact (show (kp ++ [[D.s k]]).length = 0 + kp.length + 1 by simp) | rfl)
  intro v hv _
  subst hv
  intro _; refine ⟨fun g => ?_, fun g => ?_⟩
  · have gV : ¬ VB cf ch (kp ++ [[.s k]]) := by
      have := show (!decide (VB cf ch (kp ++ [[.s k]]))) = true from g
      rw [Bool.not_eq_true'] at this; exact of_decide_eq_false this
    intro _; refine ⟨show 0 ≤ (0 : Int) ∧ (0 : Int) ≤ (kp.length : Int) ∧ (kp.length : Int) ≤ ((0 + kp.length + 1 : Nat) : Int) ∧ (0 : Int) < ((0 + kp.length + 1 : Nat) : Int) by omega, ?_⟩
    have tk : (kp ++ [[D.s k]]).take kp.length = kp := by simp
    have hVC : VB cf ch kp := ⟨⟨by omega, by omega⟩, ⟨by omega, by omega⟩, hVB.2.2⟩
    have yB : LE bf bh kp s = 0 := by unfold brk.LE; rw [if_pos ⟨hVB, hVA⟩]
    have yC : LE cf ch kp s = 0 := by unfold brk.LE; rw [if_pos ⟨hVC, hVA⟩]
    obtain ⟨kk, k0, kn, ks⟩ := st_facts hVB hVC hVA hc1 hc2 (fun _ _ h => h)
    have hlB := LS_len bf bh kp s
    have hlC := LS_len cf ch kp s
    have cB' := List_ok bf bh kp s hl
    have cC' := List_pre cf ch (kp ++ [[D.s k]]) kp.length s (by simp) hl
    rw [tk] at cC'
    unfold LQ at cB' cC'
    rw [yB] at cB'
    rw [yC] at cC'
    clear yB yC
    generalize LS bf bh kp s = LB at cB' kn ks hlB
    generalize LS cf ch kp s = LC at cC' kn ks hlC
    intro _
    refine call_new [(0, some 0)] (cB') rfl rfl rfl rfl ?_ ?_ ?_
    · (repeat' first | exact trivial | exact rfl | refine And.intro ?_ ?_)
    · (repeat' first | exact trivial | exact rfl | refine And.intro ?_ ?_)
    intro v h' hv
    obtain ⟨rfl, rfl⟩ := hv
    refine ⟨[(7, some 1)], 8, [(7, .arr [.int .i64, .bool] .grow (.recs LB))], .tup [.grw 7 LB.length, .int .i64 0], rfl, rfl, rfl, rfl, rfl, ?_, ?_, ?_⟩
    · (repeat' first | exact trivial | exact rfl | refine And.intro ?_ ?_)
    · (repeat' first | exact trivial | exact rfl | refine And.intro ?_ ?_)
    intro _
    refine call_new [(0, some 6)] (cC') rfl rfl rfl rfl ?_ ?_ ?_
    · (repeat' first | exact trivial | exact rfl | refine And.intro ?_ ?_)
      exact (show kp ++ [[D.s k]] = [] ++ (kp.drop 0).take kp.length ++ [[D.s k]] by simp)
    · (repeat' first | exact trivial | exact rfl | refine And.intro ?_ ?_)
      all_goals (first | exact hcf | exact hch | rfl)
    intro v h' hv
    obtain ⟨rfl, rfl⟩ := hv
    refine ⟨[(8, some 1)], 9, [(8, .arr [.int .i64, .bool] .grow (.recs LC))], .tup [.grw 8 LC.length, .int .i64 0], rfl, rfl, rfl, rfl, rfl, ?_, ?_, ?_⟩
    · (repeat' first | exact trivial | exact rfl | refine And.intro ?_ ?_)
    · (repeat' first | exact trivial | exact rfl | refine And.intro ?_ ?_)
    intro _
    refine loop2 tt_ok [18, 17] [] 9 (fun i : { i : Nat // i ≤ LB.length } => [(18, .int .i64 (i.1 : Nat)), (17, .int .i64 (kk i.1 : Nat))]) (fun _ => []) (fun i => LB.length - i.1) ⟨0, by omega⟩ ?_
    intro _
    refine ⟨⟨th [] 9, rfl, rfl, rfl, rfl, rfl, rfl, ?_, ?_⟩, ?_⟩
    · (repeat' first | exact trivial | exact rfl | refine And.intro ?_ ?_)
      exact (show ((kk 0 : Nat) : Int) = 0 by rw [k0]; rfl)
    · (repeat' first | exact trivial | exact rfl | refine And.intro ?_ ?_)
    intro ⟨i, hi⟩
    intro _; refine ⟨fun g => ?_, fun g => ?_⟩
    rotate_left
    · have g := of_decide_eq_false (show decide ((i : Int) < (LB.length : Int)) = false from g)
      have hie : i = LB.length := by omega
      subst hie
      intro _; refine ⟨fun _ => ?_, fun g => absurd (show ((0 : Int) == 0) = false from g) (by decide)⟩
      intro _; refine ⟨fun _ => ?_, fun g => absurd (show ((0 : Int) == 0) = false from g) (by decide)⟩
      intro _
      show ((kk LB.length : Int) == (LC.length : Int)) = true
      rw [kn]
      exact beq_self_eq_true _
    have g := of_decide_eq_true (show decide ((i : Int) < (LB.length : Int)) = true from g)
    have hil : i < LB.length := by omega
    obtain ⟨kl, kc'⟩ := ks i hil
    intro _; refine ⟨fun g => ?_, fun g => ?_⟩
    rotate_left
    · have g2 := of_decide_eq_false (show decide ((kk i : Int) < (LC.length : Int)) = false from g)
      have kd : kk (i + 1) = kk i ∧ cB (LB.getD i []) 1 = true := by
        rcases kc' with q | q
        · omega
        · exact ⟨q.1, q.2.1⟩
      intro _; refine ⟨by kernel_rfl, ?_⟩
      intro _; refine ⟨show 0 ≤ (i : Int) ∧ (i : Int) < (LB.length : Int) by omega, ?_⟩
      intro _; refine ⟨show (i : Int).toNat < LB.length by omega, ?_⟩
      intro _; refine ⟨fun g => ?_, fun g => ?_⟩
      · exfalso
        have g5 : (!cB (LB.getD (i : Int).toNat []) 1) = true := g
        rw [Int.toNat_natCast, kd.2] at g5
        cases g5
      refine ⟨⟨i + 1, by omega⟩, by simp only []; omega, th [] 9, rfl, rfl, rfl, rfl, rfl, rfl, ?_, ?_⟩
      · (repeat' first | exact trivial | exact rfl | refine And.intro ?_ ?_)
        · exact (wrap_nat i (by omega)).symm
        · exact (show ((kk (i + 1) : Nat) : Int) = (kk i : Int) by rw [kd.1])
      · (repeat' first | exact trivial | exact rfl | refine And.intro ?_ ?_)
    have g2 := of_decide_eq_true (show decide ((kk i : Int) < (LC.length : Int)) = true from g)
    intro _; refine ⟨show 0 ≤ (kk i : Int) ∧ (kk i : Int) < (LC.length : Int) by omega, ?_⟩
    intro _; refine ⟨show (kk i : Int).toNat < LC.length by omega, ?_⟩
    intro _; refine ⟨show 0 ≤ (i : Int) ∧ (i : Int) < (LB.length : Int) by omega, ?_⟩
    intro _; refine ⟨show (i : Int).toNat < LB.length by omega, ?_⟩
    intro _; refine ⟨by kernel_rfl, ?_⟩
    intro _; refine ⟨fun g => ?_, fun g => ?_⟩
    · have g3 : ((cI (LC.getD (kk i : Int).toNat []) 0 == cI (LB.getD (i : Int).toNat []) 0) && (cB (LC.getD (kk i : Int).toNat []) 1 == cB (LB.getD (i : Int).toNat []) 1)) = true := g
      rw [Int.toNat_natCast, Int.toNat_natCast, Bool.and_eq_true] at g3
      have g4 := eq_of_beq g3.1
      have kd : kk (i + 1) = kk i + 1 := by
        rcases kc' with q | q
        · exact q.1
        · exact absurd g4 (q.2.2 (by omega))
      refine ⟨⟨i + 1, by omega⟩, by simp only []; omega, th [] 9, rfl, rfl, rfl, rfl, rfl, rfl, ?_, ?_⟩
      · (repeat' first | exact trivial | exact rfl | refine And.intro ?_ ?_)
        · exact (wrap_nat i (by omega)).symm
        · exact (show ((kk (i + 1) : Nat) : Int) = IntKind.i64.wrap ((kk i : Int) + 1) by rw [kd]; exact (wrap_nat _ (by omega)).symm)
      · (repeat' first | exact trivial | exact rfl | refine And.intro ?_ ?_)
    have g3 : ((cI (LC.getD (kk i : Int).toNat []) 0 == cI (LB.getD (i : Int).toNat []) 0) && (cB (LC.getD (kk i : Int).toNat []) 1 == cB (LB.getD (i : Int).toNat []) 1)) = false := g
    rw [Int.toNat_natCast, Int.toNat_natCast] at g3
    have kd : kk (i + 1) = kk i ∧ cB (LB.getD i []) 1 = true := by
      rcases kc' with q | q
      · rw [q.2.2.1, q.2.2.2] at g3
        simp at g3
      · exact ⟨q.1, q.2.1⟩
    intro _; refine ⟨show 0 ≤ (i : Int) ∧ (i : Int) < (LB.length : Int) by omega, ?_⟩
    intro _; refine ⟨show (i : Int).toNat < LB.length by omega, ?_⟩
    intro _; refine ⟨fun g => ?_, fun g => ?_⟩
    · exfalso
      have g5 : (!cB (LB.getD (i : Int).toNat []) 1) = true := g
      rw [Int.toNat_natCast, kd.2] at g5
      cases g5
    refine ⟨⟨i + 1, by omega⟩, by simp only []; omega, th [] 9, rfl, rfl, rfl, rfl, rfl, rfl, ?_, ?_⟩
    · (repeat' first | exact trivial | exact rfl | refine And.intro ?_ ?_)
      · exact (wrap_nat i (by omega)).symm
      · exact (show ((kk (i + 1) : Nat) : Int) = (kk i : Int) by rw [kd.1])
    · (repeat' first | exact trivial | exact rfl | refine And.intro ?_ ?_)
  have gV : VB cf ch (kp ++ [[.s k]]) := by
    have := show (!decide (VB cf ch (kp ++ [[.s k]]))) = false from g
    rw [Bool.not_eq_false'] at this; exact of_decide_eq_true this
  have hVC : VB cf ch (kp ++ [[.s k]]) := gV
  have yB : LE bf bh kp s = 0 := by unfold brk.LE; rw [if_pos ⟨hVB, hVA⟩]
  have yC : LE cf ch (kp ++ [[.s k]]) s = 0 := by unfold brk.LE; rw [if_pos ⟨hVC, hVA⟩]
  obtain ⟨kk, k0, kn, ks⟩ := st_facts hVB hVC hVA hc1 hc2 (fun _ _ h => inK_more h)
  have hlB := LS_len bf bh kp s
  have hlC := LS_len cf ch (kp ++ [[.s k]]) s
  have cB' := List_ok bf bh kp s hl
  have cC' := List_ok cf ch (kp ++ [[.s k]]) s hl
  unfold LQ at cB' cC'
  rw [yB] at cB'
  rw [yC] at cC'
  clear yB yC
  generalize LS bf bh kp s = LB at cB' kn ks hlB
  generalize LS cf ch (kp ++ [[.s k]]) s = LC at cC' kn ks hlC
  intro _
  refine call_new [(0, some 0)] (cB') rfl rfl rfl rfl ?_ ?_ ?_
  · (repeat' first | exact trivial | exact rfl | refine And.intro ?_ ?_)
  · (repeat' first | exact trivial | exact rfl | refine And.intro ?_ ?_)
  intro v h' hv
  obtain ⟨rfl, rfl⟩ := hv
  refine ⟨[(7, some 1)], 8, [(7, .arr [.int .i64, .bool] .grow (.recs LB))], .tup [.grw 7 LB.length, .int .i64 0], rfl, rfl, rfl, rfl, rfl, ?_, ?_, ?_⟩
  · (repeat' first | exact trivial | exact rfl | refine And.intro ?_ ?_)
  · (repeat' first | exact trivial | exact rfl | refine And.intro ?_ ?_)
  intro _
  refine call_new [(0, some 6)] (cC') rfl rfl rfl rfl ?_ ?_ ?_
  · (repeat' first | exact trivial | exact rfl | refine And.intro ?_ ?_)
    exact (show kp ++ [[D.s k]] = [] ++ (kp.drop 0).take kp.length ++ [[D.s k]] by simp)
  · (repeat' first | exact trivial | exact rfl | refine And.intro ?_ ?_)
    all_goals (first | exact hcf | exact hch | exact (show (kp ++ [[D.s k]]).length = 0 + kp.length + 1 by simp) | rfl)
  intro v h' hv
  obtain ⟨rfl, rfl⟩ := hv
  refine ⟨[(8, some 1)], 9, [(8, .arr [.int .i64, .bool] .grow (.recs LC))], .tup [.grw 8 LC.length, .int .i64 0], rfl, rfl, rfl, rfl, rfl, ?_, ?_, ?_⟩
  · (repeat' first | exact trivial | exact rfl | refine And.intro ?_ ?_)
  · (repeat' first | exact trivial | exact rfl | refine And.intro ?_ ?_)
  intro _
  refine loop2 tt_ok [18, 17] [] 9 (fun i : { i : Nat // i ≤ LB.length } => [(18, .int .i64 (i.1 : Nat)), (17, .int .i64 (kk i.1 : Nat))]) (fun _ => []) (fun i => LB.length - i.1) ⟨0, by omega⟩ ?_
  intro _
  refine ⟨⟨th [] 9, rfl, rfl, rfl, rfl, rfl, rfl, ?_, ?_⟩, ?_⟩
  · (repeat' first | exact trivial | exact rfl | refine And.intro ?_ ?_)
    exact (show ((kk 0 : Nat) : Int) = 0 by rw [k0]; rfl)
  · (repeat' first | exact trivial | exact rfl | refine And.intro ?_ ?_)
  intro ⟨i, hi⟩
  intro _; refine ⟨fun g => ?_, fun g => ?_⟩
  rotate_left
  · have g := of_decide_eq_false (show decide ((i : Int) < (LB.length : Int)) = false from g)
    have hie : i = LB.length := by omega
    subst hie
    intro _; refine ⟨fun _ => ?_, fun g => absurd (show ((0 : Int) == 0) = false from g) (by decide)⟩
    intro _; refine ⟨fun _ => ?_, fun g => absurd (show ((0 : Int) == 0) = false from g) (by decide)⟩
    intro _
    show ((kk LB.length : Int) == (LC.length : Int)) = true
    rw [kn]
    exact beq_self_eq_true _
  have g := of_decide_eq_true (show decide ((i : Int) < (LB.length : Int)) = true from g)
  have hil : i < LB.length := by omega
  obtain ⟨kl, kc'⟩ := ks i hil
  intro _; refine ⟨fun g => ?_, fun g => ?_⟩
  rotate_left
  · have g2 := of_decide_eq_false (show decide ((kk i : Int) < (LC.length : Int)) = false from g)
    have kd : kk (i + 1) = kk i ∧ cB (LB.getD i []) 1 = true := by
      rcases kc' with q | q
      · omega
      · exact ⟨q.1, q.2.1⟩
    intro _; refine ⟨by kernel_rfl, ?_⟩
    intro _; refine ⟨show 0 ≤ (i : Int) ∧ (i : Int) < (LB.length : Int) by omega, ?_⟩
    intro _; refine ⟨show (i : Int).toNat < LB.length by omega, ?_⟩
    intro _; refine ⟨fun g => ?_, fun g => ?_⟩
    · exfalso
      have g5 : (!cB (LB.getD (i : Int).toNat []) 1) = true := g
      rw [Int.toNat_natCast, kd.2] at g5
      cases g5
    refine ⟨⟨i + 1, by omega⟩, by simp only []; omega, th [] 9, rfl, rfl, rfl, rfl, rfl, rfl, ?_, ?_⟩
    · (repeat' first | exact trivial | exact rfl | refine And.intro ?_ ?_)
      · exact (wrap_nat i (by omega)).symm
      · exact (show ((kk (i + 1) : Nat) : Int) = (kk i : Int) by rw [kd.1])
    · (repeat' first | exact trivial | exact rfl | refine And.intro ?_ ?_)
  have g2 := of_decide_eq_true (show decide ((kk i : Int) < (LC.length : Int)) = true from g)
  intro _; refine ⟨show 0 ≤ (kk i : Int) ∧ (kk i : Int) < (LC.length : Int) by omega, ?_⟩
  intro _; refine ⟨show (kk i : Int).toNat < LC.length by omega, ?_⟩
  intro _; refine ⟨show 0 ≤ (i : Int) ∧ (i : Int) < (LB.length : Int) by omega, ?_⟩
  intro _; refine ⟨show (i : Int).toNat < LB.length by omega, ?_⟩
  intro _; refine ⟨by kernel_rfl, ?_⟩
  intro _; refine ⟨fun g => ?_, fun g => ?_⟩
  · have g3 : ((cI (LC.getD (kk i : Int).toNat []) 0 == cI (LB.getD (i : Int).toNat []) 0) && (cB (LC.getD (kk i : Int).toNat []) 1 == cB (LB.getD (i : Int).toNat []) 1)) = true := g
    rw [Int.toNat_natCast, Int.toNat_natCast, Bool.and_eq_true] at g3
    have g4 := eq_of_beq g3.1
    have kd : kk (i + 1) = kk i + 1 := by
      rcases kc' with q | q
      · exact q.1
      · exact absurd g4 (q.2.2 (by omega))
    refine ⟨⟨i + 1, by omega⟩, by simp only []; omega, th [] 9, rfl, rfl, rfl, rfl, rfl, rfl, ?_, ?_⟩
    · (repeat' first | exact trivial | exact rfl | refine And.intro ?_ ?_)
      · exact (wrap_nat i (by omega)).symm
      · exact (show ((kk (i + 1) : Nat) : Int) = IntKind.i64.wrap ((kk i : Int) + 1) by rw [kd]; exact (wrap_nat _ (by omega)).symm)
    · (repeat' first | exact trivial | exact rfl | refine And.intro ?_ ?_)
  have g3 : ((cI (LC.getD (kk i : Int).toNat []) 0 == cI (LB.getD (i : Int).toNat []) 0) && (cB (LC.getD (kk i : Int).toNat []) 1 == cB (LB.getD (i : Int).toNat []) 1)) = false := g
  rw [Int.toNat_natCast, Int.toNat_natCast] at g3
  have kd : kk (i + 1) = kk i ∧ cB (LB.getD i []) 1 = true := by
    rcases kc' with q | q
    · rw [q.2.2.1, q.2.2.2] at g3
      simp at g3
    · exact ⟨q.1, q.2.1⟩
  intro _; refine ⟨show 0 ≤ (i : Int) ∧ (i : Int) < (LB.length : Int) by omega, ?_⟩
  intro _; refine ⟨show (i : Int).toNat < LB.length by omega, ?_⟩
  intro _; refine ⟨fun g => ?_, fun g => ?_⟩
  · exfalso
    have g5 : (!cB (LB.getD (i : Int).toNat []) 1) = true := g
    rw [Int.toNat_natCast, kd.2] at g5
    cases g5
  refine ⟨⟨i + 1, by omega⟩, by simp only []; omega, th [] 9, rfl, rfl, rfl, rfl, rfl, rfl, ?_, ?_⟩
  · (repeat' first | exact trivial | exact rfl | refine And.intro ?_ ?_)
    · exact (wrap_nat i (by omega)).symm
    · exact (show ((kk (i + 1) : Nat) : Int) = (kk i : Int) by rw [kd.1])
  · (repeat' first | exact trivial | exact rfl | refine And.intro ?_ ?_)

theorem open_strs {H : Type} {enc : TypeId × Value → H} {P : Program} {w : World} {base : Nat} {held : Bool} {r : Reach} {t e : TypeId} {v : Value} {d : DataW H} {p : List MemPlace} (ht : P.underlying t = some (.slice e)) (he : P.underlying e = some .string) (hC : P.cellsOf e = 1)
    (hval : Value.okWide P w r base t v) (h : DataW.Trod enc P w 0 (fun _ => true) held t v d p) :
    ∃ (s : Src) (l : List (List Go.Vm2.D)) (cap : Nat), s.ks = [.str] ∧ s.ac = .recs l ∧ s.lies w ∧ (s.at_ = none → l.length = 0) ∧ l.length ≤ cap ∧ v = s.val cap ∧ l.length ≤ maxLen ∧ ∀ x ∈ l, Go.Vm2.rowWf [.str] x := by
  have hne : ([.str] : List CK) ≠ [] := by simp
  letI : Facts := ⟨[], [], false⟩
  obtain ⟨ao, len, cap, rfl⟩ := okWide_slice ht hval
  obtain ⟨fuel, h⟩ := h
  rcases Go.Deep.open_slice ht h with ⟨h1, _⟩ | ⟨a, len', cap', m, n, D', Pl, h1, _, h3, h4, hm, _, hi⟩
  · have h1 : [Value.slice ao len cap] = [.slice none 0 0] := h1
    simp only [List.cons.injEq, Value.slice.injEq, and_true] at h1
    obtain ⟨rfl, rfl, rfl⟩ := h1
    exact ⟨⟨none, ([.str] : List CK), .recs []⟩, [], 0, rfl, rfl, ⟨hne, rfl⟩, fun _ => rfl, Nat.le_refl _, rfl, Nat.zero_le _, fun n hn => (List.not_mem_nil hn).elim⟩
  · have h1 : [Value.slice ao len cap] = [.slice (some a) len' cap'] := h1
    simp only [List.cons.injEq, Value.slice.injEq, and_true] at h1
    obtain ⟨rfl, rfl, rfl⟩ := h1
    have hh : w.has P r base a e cap := by
      simp only [Value.okWide, ht, Cell.okWide, Cell.ok] at hval
      exact hval.2.2
    have hlm : len ≤ m := by rw [hm]; split <;> omega
    have rows : ∀ i, i < len → ∃ ds : List Go.Vm2.D, Go.Vm2.rowWf [.str] ds ∧ ∀ j c, ([.str] : List CK)[j]? = some c → w.cell? (a.add (i * ([.str] : List CK).length + j)) = some (Go.Vm2.valOf c (ds.getD j (.n 0))) := by
      intro i hil
      obtain ⟨cs', hc, ht'⟩ := hi i (by omega)
      rw [hC] at hc
      obtain ⟨_, hcl, hat⟩ := World.cells?_some hc
      obtain ⟨m', h1, _, h3⟩ := DataW.trod_string he ht'
      refine ⟨[.s m'.data.toList], ⟨rfl, fun j c hj => ?_⟩, fun j c hj => ?_⟩
      · match j, hj with
        | 0, hj =>
          simp at hj; subst hj
          exact ⟨_, rfl, by simpa using h3⟩
        | j + 1, hj => simp at hj
      · match j, hj with
        | 0, hj =>
          simp at hj; subst hj
          have := hat 0 (by omega)
          rw [h1] at this
          rw [← Go.Deep.add_add]
          exact this
        | j + 1, hj => simp at hj
    obtain ⟨l, l1, l2⟩ := Go.Vm2.pick_list len rows
    obtain ⟨b, off, spot⟩ := a
    obtain ⟨rfl, c, tt, fz, hb, hoff⟩ := Go.Vm2.has_lies hh
    have hb : w.heap[b]? = some (.cells c tt fz) := hb
    have hz : 0 < ([.str] : List CK).length := List.length_pos_iff.2 hne
    have cellAt : ∀ i j ck, i < len → ([.str] : List CK)[j]? = some ck → c[off + (i * ([.str] : List CK).length + j)]? = some (Go.Vm2.valOf ck (((l.getD i []).getD j (.n 0)))) := by
      intro i j ck hil hck
      have e : l[i]? = some (l.getD i []) := by rw [List.getD_eq_getElem?_getD, List.getElem?_eq_getElem (by omega)]; rfl
      have := (l2 i _ e).2 j ck hck
      rw [add_plain] at this
      unfold World.cell? at this
      rw [hb] at this
      simpa using this
    refine ⟨⟨some (b, off), ([.str] : List CK), .recs l⟩, l, cap, rfl, rfl, ⟨hne, c, tt, fz, hb, ?_, ?_⟩, (fun e => by cases e), by omega, ?_, by omega, fun x hx => ?_⟩
    · show off + l.length * ([.str] : List CK).length ≤ c.size
      rcases Nat.eq_zero_or_pos len with h0 | h0
      · rw [l1, h0, Nat.zero_mul]; exact hoff
      · have hk : ([.str] : List CK)[([.str] : List CK).length - 1]? = some ([.str] : List CK)[([.str] : List CK).length - 1] := List.getElem?_eq_getElem (by omega)
        have := (Array.getElem?_eq_some_iff.1 (cellAt (len - 1) (([.str] : List CK).length - 1) _ (by omega) hk)).1
        rw [l1]
        have e : len * ([.str] : List CK).length = (len - 1) * ([.str] : List CK).length + ([.str] : List CK).length := by
          have : len = (len - 1) + 1 := by omega
          rw [this, Nat.add_mul, Nat.one_mul]; simp
        omega
    · intro i ck dd hii
      simp only [AC.avs] at hii
      have hfl' := Go.Vm2.flat_length (fun x => Go.Vm2.rowAV_length ([.str] : List CK) 0 x) l
      have hil : i < l.length * ([.str] : List CK).length := by rw [← hfl']; exact (List.getElem?_eq_some_iff.1 hii).1
      have q1 := Nat.div_add_mod i ([.str] : List CK).length
      have q2 := Nat.mod_lt i hz
      have q3 : i / ([.str] : List CK).length < l.length := (Nat.div_lt_iff_lt_mul hz).2 hil
      have hi' : i = i / ([.str] : List CK).length * ([.str] : List CK).length + i % ([.str] : List CK).length := by rw [Nat.mul_comm]; omega
      have e : l[i / ([.str] : List CK).length]? = some (l.getD (i / ([.str] : List CK).length) []) := by rw [List.getD_eq_getElem?_getD, List.getElem?_eq_getElem q3]; rfl
      have hk : ([.str] : List CK)[i % ([.str] : List CK).length]? = some ([.str] : List CK)[i % ([.str] : List CK).length] := List.getElem?_eq_getElem q2
      have f1 := Go.Vm2.flat_get (fun x => Go.Vm2.rowAV_length ([.str] : List CK) 0 x) (i / ([.str] : List CK).length) l _ e (i % ([.str] : List CK).length) q2
      rw [← hi', hii, Go.Vm2.rowAV_get ([.str] : List CK) 0 _ _ _ hk, Nat.zero_add] at f1
      have f2 := cellAt (i / ([.str] : List CK).length) (i % ([.str] : List CK).length) _ (by omega) hk
      rw [← hi'] at f2
      show c[off + i]? = some (Go.Vm2.valOf ck dd)
      rw [f2]
      simp only [Option.some.injEq] at f1
      congr 1
      revert f1
      generalize ([.str] : List CK)[i % ([.str] : List CK).length] = c2
      generalize (l.getD (i / ([.str] : List CK).length) []).getD (i % ([.str] : List CK).length) (.n 0) = d2
      intro f1
      cases ck <;> cases c2 <;> simp only [CK.av, Go.Vm.AV.int.injEq, Go.Vm.AV.bool.injEq, Go.Vm.AV.str.injEq, reduceCtorEq] at f1 <;> simp only [Go.Vm2.valOf]
      · rw [f1.1, f1.2]
      · rw [f1]
      · rw [f1]
    · show Value.slice (some ⟨b, off, none⟩) len cap = Value.slice (some ⟨b, off, none⟩) l.length cap
      rw [l1]
    · obtain ⟨i, hi', rfl⟩ := List.getElem_of_mem hx
      exact (l2 i _ (List.getElem?_eq_getElem hi')).1
theorem agg_cv {n : Nat} {ν : Nu} {vs : List V} {as' : List Go.Vm.AV} (h : Cvs n ν vs as') : Cv n ν (.agg vs) (.agg as') := by
  simp only [Cv]; exact ⟨as', rfl, h⟩
def fieldsSt (P : Program) : Nat → List Field → List TypeId → Bool
  | _, [], [] => true
  | j, f :: fs, u :: us => Nat.beq f.offset j && Nat.beq (P.cellsOf f.type) 1 && Nat.beq f.type u && fieldsSt P (j + 1) fs us
  | _, _, _ => false
theorem fieldsSt_get {P : Program} : ∀ {fs : List Field} {ts : List TypeId} {j0 : Nat}, fieldsSt P j0 fs ts = true → ∀ (j : Nat) (u : TypeId), ts[j]? = some u → ∃ f, fs[j]? = some f ∧ f.offset = j0 + j ∧ P.cellsOf f.type = 1 ∧ f.type = u
  | [], [], _, _ => fun j u e => by simp at e
  | [], _ :: _, _, h => by simp [fieldsSt] at h
  | _ :: _, [], _, h => by simp [fieldsSt] at h
  | f :: fs, u :: us, j0, h => by
    simp only [fieldsSt, Bool.and_eq_true] at h
    obtain ⟨⟨⟨h1, h2⟩, h3⟩, h4⟩ := h
    intro j u' e
    cases j with
    | zero =>
      simp at e; subst e
      exact ⟨f, rfl, Nat.eq_of_beq_eq_true h1, Nat.eq_of_beq_eq_true h2, Nat.eq_of_beq_eq_true h3⟩
    | succ j =>
      simp at e
      obtain ⟨f', e1, e2, e3⟩ := fieldsSt_get h4 j u' e
      exact ⟨f', by simpa using e1, by rw [e2]; omega, e3⟩
theorem open_st {H : Type} {enc : TypeId × Value → H} {P : Program} {w : World} {base : Nat} {spare : Nat → Bool} {held : Bool} {r : Reach} {t : TypeId} {fs : Array Field} {ts : List TypeId} {v : Value} {d : DataW H} {p : List MemPlace} (ht : P.underlying t = some (.struct fs)) (hts : P.cellTypes P.depth t = some ts) (hC : P.cellsOf t = ts.length) (hf : fieldsSt P 0 fs.toList ts = true)
    (hval : Value.okWide P w r base t v) (h : DataW.Trod enc P w 0 spare held t v d p) :
    ∃ cs : Array Value, v = .agg cs ∧ cs.size = ts.length ∧ ∀ (j : Nat) (u : TypeId), ts[j]? = some u → ∃ x d' p' fuel, cs[j]? = some x ∧ Cell.okWide P w r base u x ∧ DataW.trod enc P w 0 spare held fuel u [x] = some (d', p') := by
  unfold Value.okWide at hval
  rw [ht] at hval
  obtain ⟨cs, rfl, hs, ts', ht', _, hk⟩ := hval
  rw [hts] at ht'
  simp only [Option.some.injEq] at ht'
  subst ht'
  obtain ⟨fuel, h⟩ := h
  obtain ⟨xs, n, _, _, hl, hxl, hf'⟩ := DataW.trod_struct ht h
  refine ⟨cs, rfl, by rw [hs, hC], fun j u hu => ?_⟩
  obtain ⟨f, e1, e2, e3, rfl⟩ := fieldsSt_get hf j u hu
  have hj : j < ts.length := (List.getElem?_eq_some_iff.1 hu).1
  have hjc : j < cs.size := by rw [hs, hC]; exact hj
  obtain ⟨u', hu', hok⟩ := hk j cs[j] (by simp [hjc])
  rw [Nat.mod_eq_of_lt hj, hu] at hu'
  cases hu'
  have e4 := hf' j f (by simpa using e1)
  rw [e2, e3, Nat.zero_add] at e4
  have e5 : ((Value.agg cs).cells.toList.drop j).take 1 = [cs[j]] := by
    show (cs.toList.drop j).take 1 = _
    rw [List.drop_eq_getElem_cons (by simpa using hjc)]; simp
  rw [e5] at e4
  have hjf : j < fs.toList.length := (List.getElem?_eq_some_iff.1 e1).1
  have hjx : j < xs.length := by rw [hxl]; simpa using hjf
  rw [List.getElem?_eq_getElem hjx] at e4
  exact ⟨cs[j], xs[j].1, xs[j].2, n, by simp [hjc], hok, e4⟩
theorem walk (w : World) (bf : Int) (w_bf : (Lit.int .i64 bf).wf = true) (bh : Int) (w_bh : (Lit.int .i64 bh).wf = true) (v_kp : Value) (s_kp : Src) (kp : List (List Go.Vm2.D)) (cap_kp : Nat) (hk_kp : s_kp.ks = [.str]) (ha_kp : s_kp.ac = .recs kp) (hs_kp : s_kp.lies w) (hn_kp : s_kp.at_ = none → kp.length = 0) (hc_kp : kp.length ≤ cap_kp) (hv_kp : v_kp = s_kp.val cap_kp) (hm_kp : kp.length ≤ maxLen) (w_kp : ∀ n ∈ kp, rowWf [.str] n) (s : List UInt8) (m_s : s.length ≤ maxLen) (be : Int) (w_be : (Lit.int .u8 be).wf = true) (bi : Int) (w_bi : (Lit.int .u8 bi).wf = true) (kx : List UInt8) (m_kx : kx.length ≤ maxLen) :
    Calls Try.prog 7 #[.agg #[.int .i64 bf, .int .i64 bh, v_kp], .string ⟨s.toArray⟩, .int .u8 be, .int .u8 bi, .string ⟨kx.toArray⟩] w fun e w' => e = .returned (.bool true) ∧ Below w.heap.size w w' := by
  obtain ⟨at_kp, ks_kp, ac_kp⟩ := s_kp
  simp only [] at hk_kp ha_kp
  subst hk_kp ha_kp
  have h_kp : kp.length ≤ 9223372036854775807 := by unfold maxLen at hm_kp; omega
  have b_bf := w_bf
  simp [Lit.wf, IntKind.min, IntKind.max, IntKind.signed, IntKind.bits] at b_bf
  have b_bh := w_bh
  simp [Lit.wf, IntKind.min, IntKind.max, IntKind.signed, IntKind.bits] at b_bh
  have h_s : s.length ≤ 9223372036854775807 := by unfold maxLen at m_s; omega
  have b_be := w_be
  simp [Lit.wf, IntKind.min, IntKind.max, IntKind.signed, IntKind.bits] at b_be
  have b_bi := w_bi
  simp [Lit.wf, IntKind.min, IntKind.max, IntKind.signed, IntKind.bits] at b_bi
  have h_kx : kx.length ≤ 9223372036854775807 := by unfold maxLen at m_kx; omega
  exact top_run (by kernel_rfl) (by kernel_rfl) (T := [9]) (fun f hf w => by
      rcases List.mem_cons.1 hf with e | e
      · subst e; exact head w
      · exact (List.not_mem_nil e).elim) (l := [⟨at_kp, [.str], .recs kp⟩]) (args := [.agg [.int .i64 bf, .int .i64 bh, .slc 0 1 0 kp.length], .str s, .int .u8 be, .int .u8 bi, .str kx]) («as» := [.agg [.int .i64 bf, .int .i64 bh, Src.av 0 cap_kp ⟨at_kp, [.str], .recs kp⟩], .str s, .int .u8 be, .int .u8 bi, .str kx]) (cargs := [.agg #[.int .i64 bf, .int .i64 bh, v_kp], .string ⟨s.toArray⟩, .int .u8 be, .int .u8 bi, .string ⟨kx.toArray⟩]) w
    (fun s h => by
      rcases List.mem_cons.1 h with e | h
      · subst e; exact hs_kp
      · exact (List.not_mem_nil h).elim)
    (Cvs.cons (agg_cv (Cvs.cons mk_int (Cvs.cons mk_int (Cvs.cons (src_cv (s := ⟨at_kp, [.str], .recs kp⟩) rfl 1 hc_kp hn_kp) Cvs.nil)))) (Cvs.cons mk_str (Cvs.cons mk_int (Cvs.cons mk_int (Cvs.cons mk_str Cvs.nil)))))
    (by simp only [Go.Vm.convs, Go.Vm.conv]; rw [src_conv (j := 0) (s := ⟨at_kp, [.str], .recs kp⟩) rfl]; subst hv_kp; rfl)
    ((law7 bf bh kp s be bi kx h_s b_be b_bi))

set_option maxRecDepth 100000 in
theorem lifted (os : Os) (started : os.Started) (H : Type) (enc : TypeId × Value → H) :
    ReturnsInHanded {} Try.checked os 7 .any (Rows.breaksStricterSpec.pre6 enc Try.prog Try.f7 Rows.breaksStricterRow.domain false) (Rows.breaksStricterSpec.post enc Try.prog Try.f7 false true false false) := by
  refine returnsInHanded_of_change (C := Try.checked) own started (by kernel_rfl) Try.func7
    (ChangeSpec.witness6 (enc := enc) (C := Try.checked) false ⟨#[], #[.agg #[.int .i64 0, .int .i64 0, .slice none 0 0], .string ⟨#[]⟩, .int .u8 0, .int .u8 0, .string ⟨#[]⟩], []⟩ 8 (by kernel_rfl) (by kernel_rfl) (by kernel_rfl) (by kernel_rfl)) ?_
  intro W base args ds gs before hval0 hW hcnd _
  have hval : ∀ (j : Nat) t v, Try.f7.params[j]? = some t → args[j]? = some v → Value.okWide Try.prog W .any base t v := hval0
  have hW' := hW
  obtain ⟨p, q, hA0, hV, rfl, hfz, hnd⟩ := hW
  have hA : DataW.TrodAll enc Try.prog W 0 (fun _ => true) true Try.f7.params.toList args.toList ds p := hA0
  rw [Try.params7] at hA hval
  obtain ⟨v0, vs0, d0, ds0, p0, q0, hargs, rfl, rfl, h0, r0⟩ := trodAll_cons hA
  obtain ⟨v1, vs1, d1, ds1, p1, q1, rfl, rfl, rfl, h1, r1⟩ := trodAll_cons r0
  obtain ⟨v2, vs2, d2, ds2, p2, q2, rfl, rfl, rfl, h2, r2⟩ := trodAll_cons r1
  obtain ⟨v3, vs3, d3, ds3, p3, q3, rfl, rfl, rfl, h3, r3⟩ := trodAll_cons r2
  obtain ⟨v4, vs4, d4, ds4, p4, q4, rfl, rfl, rfl, h4, r4⟩ := trodAll_cons r3
  obtain ⟨rfl, rfl, rfl⟩ := trodAll_nil r4
  obtain rfl : args = #[v0, v1, v2, v3, v4] := by cases args; simp_all
  obtain ⟨rfl, rfl⟩ := trodVars_none hV
  obtain ⟨cs_b, rfl, hz_b, hs_b⟩ := open_st (ts := [3, 3, 22]) Try.underlying24 (by kernel_rfl) (by kernel_rfl) (by kernel_rfl) (hval 0 24 v0 rfl rfl) h0
  have hlt0 : ∀ x ∈ p0, x.block < W.heap.size := fun x hx => by simpa using hW'.lt x (by simp [hx])
  obtain ⟨x_bf, d_bf, p_bf, fu_bf, hx_bf, hk0_bf, ht_bf⟩ := hs_b 0 3 rfl
  have hkk_bf : Value.okWide Try.prog W .any base 3 x_bf := by unfold Value.okWide; rw [Try.underlying3]; exact hk0_bf
  obtain ⟨x_bh, d_bh, p_bh, fu_bh, hx_bh, hk0_bh, ht_bh⟩ := hs_b 1 3 rfl
  have hkk_bh : Value.okWide Try.prog W .any base 3 x_bh := by unfold Value.okWide; rw [Try.underlying3]; exact hk0_bh
  obtain ⟨x_kp, d_kp, p_kp, fu_kp, hx_kp, hk0_kp, ht_kp⟩ := hs_b 2 22 rfl
  have hkk_kp : Value.okWide Try.prog W .any base 22 x_kp := by unfold Value.okWide; rw [Try.underlying22]; exact hk0_kp
  have hcs_b : cs_b = #[x_bf, x_bh, x_kp] := by
    refine Array.ext (by rw [hz_b]; rfl) fun i h1 h2 => ?_
    have hi : i < 3 := by simpa using h2
    rcases i with _ | _ | _ | i
    · have := hx_bf; rw [Array.getElem?_eq_getElem h1] at this; exact Option.some.inj this
    · have := hx_bh; rw [Array.getElem?_eq_getElem h1] at this; exact Option.some.inj this
    · have := hx_kp; rw [Array.getElem?_eq_getElem h1] at this; exact Option.some.inj this
    · omega
  subst hcs_b
  obtain ⟨bf, hq_bf, _, w_bf⟩ := DataW.trod_int Try.underlying3 ht_bf
  simp only [List.cons.injEq, and_true] at hq_bf
  subst hq_bf
  obtain ⟨bh, hq_bh, _, w_bh⟩ := DataW.trod_int Try.underlying3 ht_bh
  simp only [List.cons.injEq, and_true] at hq_bh
  subst hq_bh
  have htt_kp : DataW.Trod enc Try.prog W 0 (fun _ => true) true 22 x_kp d_kp p_kp := by obtain ⟨ao, len, cap, rfl⟩ := okWide_slice Try.underlying22 hkk_kp; exact ⟨fu_kp, ht_kp⟩
  obtain ⟨s_kp, kp, cap_kp, hk_kp, ha_kp, hs_kp, hn_kp, hc_kp, hv_kp, hm_kp, w_kp⟩ := open_strs Try.underlying22 Try.underlying9 (by kernel_rfl) hkk_kp htt_kp
  obtain ⟨sb_s, rfl, rfl, rfl, m0_s⟩ := Go.ChangeMaps.open_string Try.underlying9 (hval 1 9 v1 rfl rfl) h1
  obtain ⟨s, rfl⟩ : ∃ a : List UInt8, sb_s = ⟨a.toArray⟩ := ⟨sb_s.data.toList, by cases sb_s; simp⟩
  obtain ⟨be, rfl, rfl, rfl, w_be⟩ := open_int Try.underlying5 (hval 2 5 v2 rfl rfl) h2
  obtain ⟨bi, rfl, rfl, rfl, w_bi⟩ := open_int Try.underlying5 (hval 3 5 v3 rfl rfl) h3
  obtain ⟨sb_kx, rfl, rfl, rfl, m0_kx⟩ := Go.ChangeMaps.open_string Try.underlying9 (hval 4 9 v4 rfl rfl) h4
  obtain ⟨kx, rfl⟩ : ∃ a : List UInt8, sb_kx = ⟨a.toArray⟩ := ⟨sb_kx.data.toList, by cases sb_kx; simp⟩
  clear hA0 hval0
  refine (walk W bf w_bf bh w_bh x_kp s_kp kp cap_kp hk_kp ha_kp hs_kp hn_kp hc_kp hv_kp hm_kp w_kp s (by simpa [ByteArray.size] using m0_s) be w_be bi w_bi kx (by simpa [ByteArray.size] using m0_kx)).mono fun e W' ⟨he, hg⟩ => ?_
  subst he
  exact ⟨_, rfl, _, _, _, [], _, [], hW', trodAll_cons_mk (shut_bool Try.underlying4 _) trodAll_mk0, (trodAll_cons_mk (Below.trod laidOut (by kernel_rfl) (of_decide_eq_true (by kernel_rfl)) h0 hg hlt0) (trodAll_cons_mk (Go.ChangeMaps.shut_string Try.underlying9 m0_s) (trodAll_cons_mk (shut_int Try.underlying5 w_be) (trodAll_cons_mk (shut_int Try.underlying5 w_bi) (trodAll_cons_mk (Go.ChangeMaps.shut_string Try.underlying9 m0_kx) trodAll_mk0))))), rfl, hg.frame _, fun h => by cases h⟩

theorem over : Rows.breaksStricterRow.holds Try.pinned (OpenSpec.ofChange Rows.breaksStricterSpec) :=
  OpenClaim.holds_of_wide 7 Try.f7 rfl rfl rfl rfl rfl rfl rfl ⟨rfl, rfl, rfl, rfl, rfl⟩ rfl rfl rfl rfl rfl (by kernel_rfl) Try.func7 (by kernel_rfl)
    (of_decide_eq_true (by kernel_rfl)) (by unfold Func.isWrapper; first | (rw [if_pos (by decide +kernel)]; kernel_rfl) | (rw [if_neg (by decide +kernel)]; exact ⟨rfl, rfl⟩))
    (fun os started H enc _ => lifted os started H enc)

/-- the statement -/
theorem proved : Rows.BreaksStricterSaid :=
  over
#print axioms proved
end Go.Proofs.Ytbjidlekfoabaaa.breaksStricter
