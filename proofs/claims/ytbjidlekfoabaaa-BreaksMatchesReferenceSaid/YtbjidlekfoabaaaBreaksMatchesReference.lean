/-
  BreaksMatchesReference: whatever the arguments, the law returns true, and its arguments read as before. No conditions.
-/
import Derived.Test.YtbjidlekfoabaaaRows
import Derived.Test.YtbjidlekfoabaaaVwOpen2
import Derived.Test.YtbjidlekfoabaaaVwRules6
import Derived.Test.YtbjidlekfoabaaaVmSym
import Derived.WalkKit
import Derived.ProofKit
import Derived.OpenShut
import Derived.Carry
import Derived.ChangeMaps5
import Derived.Laws.RangeAny
import Derived.Test.YtbjidlekfoabaaaBrkA
import Derived.Test.YtbjidlekfoabaaaBrkB
namespace Go.Proofs.Ytbjidlekfoabaaa.breaksMatchesReference
open Go.ChangeShapes Go.WideShapes Go.ChangeAt Go.RowKit
open Go.Vm (Facts Val Sound)
open Go.Vm2
set_option linter.unusedVariables false
set_option linter.unusedSectionVars false

open Go.Proofs.Ytbjidlekfoabaaa.brk
theorem own : ownKnob Try.prog.godebug = none := by kernel_rfl
theorem laidOut : laidOutB Try.prog = true := by kernel_rfl
set_option maxRecDepth 100000
def SameT (x y : LD) : Prop := x.length = y.length ∧ ∀ i, i < x.length → kS x i = kS y i
instance decSameT (x y : LD) : Decidable (SameT x y) := inferInstanceAs (Decidable (_ ∧ ∀ i, i < x.length → _))
theorem SameT_refl (x : LD) : SameT x x := ⟨rfl, fun _ _ => rfl⟩
theorem sameT_ok (x y : LD) (hx : x.length ≤ 1000000) (hy : y.length ≤ 1000000) : SemF Try.prog 17 [.slc 0 1 0 x.length, .slc 1 1 0 y.length] ⟨2, 2, [(0, .arr [.str] .rd (.recs x)), (1, .arr [.str] .rd (.recs y))]⟩ (fun v _ => v = .test (decide (SameT x y)) ∧ nameless v = true) := by
  refine SemF.test ?_
  refine enter tt_ok Try.func17 (nt := 26) (cd := body Try.f17) rfl rfl rfl rfl ?_
  intro _; refine ⟨fun g => ?_, fun g => ?_⟩
  · have g : ((x.length : Int) != (y.length : Int)) = true := g
    rw [bne_iff_ne] at g
    intro _
    exact ⟨false, .inl rfl, by rw [decide_eq_false (fun h : SameT x y => g (by rw [h.1]))], rfl⟩
  have g0 : ((x.length : Int) != (y.length : Int)) = false := g
  rw [bne_eq_false_iff_eq] at g0
  intro _
  refine loop2 tt_ok [5] [] 2 (fun i : { i : Nat // i ≤ x.length ∧ ∀ j, j < i → kS x j = kS y j } => [(5, .int .i64 (i.1 : Nat))]) (fun _ => []) (fun i => x.length - i.1) ⟨0, by omega, fun j hj => by omega⟩ ?_
  intro _
  refine ⟨⟨th [] 2, rfl, rfl, rfl, rfl, rfl, rfl, ?_, ?_⟩, ?_⟩
  · (repeat' first | exact trivial | exact rfl | refine And.intro ?_ ?_)
  · (repeat' first | exact trivial | exact rfl | refine And.intro ?_ ?_)
  intro ⟨i, h1, h2⟩
  intro _; refine ⟨fun g => ?_, fun g => ?_⟩
  rotate_left
  · have g := of_decide_eq_false (show decide ((i : Int) < (x.length : Int)) = false from g)
    intro _
    exact ⟨true, .inl rfl, by rw [decide_eq_true (show SameT x y from ⟨by omega, fun j hj => h2 j (by omega)⟩)], rfl⟩
  have g := of_decide_eq_true (show decide ((i : Int) < (x.length : Int)) = true from g)
  have ei : 0 + (i : Int).toNat = i := by omega
  intro _; refine ⟨show 0 ≤ (i : Int) ∧ (i : Int) < (x.length : Int) by omega, ?_⟩
  intro _; refine ⟨show 0 + (i : Int).toNat < x.length by omega, ?_⟩
  intro _; refine ⟨show 0 ≤ (i : Int) ∧ (i : Int) < (y.length : Int) by omega, ?_⟩
  intro _; refine ⟨show 0 + (i : Int).toNat < y.length by omega, ?_⟩
  intro _; refine ⟨by kernel_rfl, ?_⟩
  intro _; refine ⟨fun g => ?_, fun g => ?_⟩
  · have g2 : (!(kS x (0 + (i : Int).toNat) == kS y (0 + (i : Int).toNat))) = true := g
    rw [ei, Bool.not_eq_true'] at g2
    have g2 := beq_eq_false_iff_ne.1 g2
    intro _
    exact ⟨false, .inl rfl, by rw [decide_eq_false (fun h : SameT x y => g2 (h.2 i (by omega)))], rfl⟩
  have g2 : (!(kS x (0 + (i : Int).toNat) == kS y (0 + (i : Int).toNat))) = false := g
  rw [ei, Bool.not_eq_false'] at g2
  refine ⟨⟨i + 1, by omega, step_all h2 (eq_of_beq g2)⟩, by simp only []; omega, th [] 2, rfl, rfl, rfl, rfl, rfl, rfl, ?_, ?_⟩
  · (repeat' first | exact trivial | exact rfl | refine And.intro ?_ ?_)
    exact (wrap_nat i (by omega)).symm
  · (repeat' first | exact trivial | exact rfl | refine And.intro ?_ ?_)
theorem bq {b : Bool} : ¬ (b == b) = false := by simp
theorem bqi {b : Int} : ¬ (b == b) = false := by simp
theorem LS_len (bf bh : Int) (kp : LD) (s : List UInt8) : (LS bf bh kp s).length ≤ 2000 := by
  unfold LS
  split
  · rename_i h
    have := lst_len bf bh kp s s.length
    have := h.2.1
    omega
  · simp
theorem FT_len (bf bh : Int) (kp : LD) (s : List UInt8) : (FT bf bh kp s).length ≤ 2001 := by
  unfold FT
  split
  · rename_i h
    have := PTm_len (bf := bf) (bh := bh) (kp := kp) (s := s) s.length
    have := opt_len (pt (seg s (frm bf bh kp s s.length) s.length) false)
    have := h.2.1
    rw [List.length_append]; omega
  · simp
set_option maxHeartbeats 2000000 in
theorem law3 (bf bh : Int) (kp : LD) (s : List UInt8) (hl : s.length ≤ 9223372036854775807) : SemF Try.prog 3 [.agg [.int .i64 bf, .int .i64 bh, .slc 0 1 0 kp.length], .str s] ⟨1, 1, [(0, .arr [.str] .ro (.recs kp))]⟩ (fun v _ => IsTrue v) := by
  refine enter tt_ok Try.func3 (nt := 81) (cd := body Try.f3) rfl rfl rfl rfl ?_
  have c1 := LS_len bf bh kp s
  have c2 := FT_len bf bh kp s
  intro _
  refine head_ok rfl Try.func9 (cd := body Try.f9) rfl ?_
  intro _; refine ⟨fun g => ?_, fun g => ?_⟩
  · intro _
    rfl
  intro _; refine ⟨fun g => ?_, fun g => ?_⟩
  · intro _; refine ⟨fun g => ?_, fun g => ?_⟩
    · intro _
      rfl
    intro _
    refine call_new [(0, some 0)] (List_ok bf bh kp s hl) rfl rfl rfl rfl ?_ ?_ ?_
    · (repeat' first | exact trivial | exact rfl | refine And.intro ?_ ?_)
    · (repeat' first | exact trivial | exact rfl | refine And.intro ?_ ?_)
    intro v h' hv
    obtain ⟨rfl, rfl⟩ := hv
    refine ⟨[(2, some 1)], 3, [(2, .arr [.int .i64, .bool] .grow (.recs (LS bf bh kp s)))], .tup [.grw 2 (LS bf bh kp s).length, .int .i64 (LE bf bh kp s)], rfl, rfl, rfl, rfl, rfl, ?_, ?_, ?_⟩
    · (repeat' first | exact trivial | exact rfl | refine And.intro ?_ ?_)
    · (repeat' first | exact trivial | exact rfl | refine And.intro ?_ ?_)
    intro _
    refine call_new [(0, some 0)] (rList_ok bf bh kp s hl) rfl rfl rfl rfl ?_ ?_ ?_
    · (repeat' first | exact trivial | exact rfl | refine And.intro ?_ ?_)
    · (repeat' first | exact trivial | exact rfl | refine And.intro ?_ ?_)
    intro v h' hv
    obtain ⟨rfl, rfl⟩ := hv
    refine ⟨[(3, some 1)], 4, [(3, .arr [.int .i64, .bool] .grow (.recs (LS bf bh kp s)))], .tup [.grw 3 (LS bf bh kp s).length, .int .i64 (LE bf bh kp s)], rfl, rfl, rfl, rfl, rfl, ?_, ?_, ?_⟩
    · (repeat' first | exact trivial | exact rfl | refine And.intro ?_ ?_)
    · (repeat' first | exact trivial | exact rfl | refine And.intro ?_ ?_)
    intro _
    refine Or.inl ?_
    intro _
    refine call_pure [(0, some 0)] (Valid_ok bf bh kp) rfl rfl rfl ?_ ?_ ?_
    · (repeat' first | exact trivial | exact rfl | refine And.intro ?_ ?_)
    · (repeat' first | exact trivial | exact rfl | refine And.intro ?_ ?_)
    intro v hv _
    subst hv
    intro _
    refine Or.inl ?_
    intro _
    refine call_pure [(0, some 0)] (rValid_ok bf bh kp) rfl rfl rfl ?_ ?_ ?_
    · (repeat' first | exact trivial | exact rfl | refine And.intro ?_ ?_)
    · (repeat' first | exact trivial | exact rfl | refine And.intro ?_ ?_)
    intro v hv _
    subst hv
    intro _; refine ⟨fun g => ?_, fun g => ?_⟩
    rotate_left
    · exact absurd (show (decide (VB bf bh kp) == decide (VB bf bh kp)) = false from g) bq
    intro _
    refine Or.inl ?_
    intro _
    refine call_pure [(0, some 2), (1, some 3)] (same_ok (LS bf bh kp s) (LS bf bh kp s) (by omega) (by omega)) rfl rfl rfl ?_ ?_ ?_
    · (repeat' first | exact trivial | exact rfl | refine And.intro ?_ ?_)
    · (repeat' first | exact trivial | exact rfl | refine And.intro ?_ ?_)
    intro v hv _
    subst hv
    intro _; refine ⟨fun g => ?_, fun g => ?_⟩
    rotate_left
    · exact absurd (decide_eq_true (SameR_refl (LS bf bh kp s))) (Bool.eq_false_iff.1 (show decide (SameR (LS bf bh kp s) (LS bf bh kp s)) = false from g))
    intro _; refine ⟨by kernel_rfl, ?_⟩
    intro _
    refine call_new [(0, some 0)] (Least_ok bf bh kp s hl) rfl rfl rfl rfl ?_ ?_ ?_
    · (repeat' first | exact trivial | exact rfl | refine And.intro ?_ ?_)
    · (repeat' first | exact trivial | exact rfl | refine And.intro ?_ ?_)
    intro v h' hv
    obtain ⟨rfl, rfl⟩ := hv
    refine ⟨[(4, some 1)], 5, [(4, .arr [.str] .grow (.recs (FT bf bh kp s)))], .tup [.grw 4 (FT bf bh kp s).length, .int .i64 (LE bf bh kp s)], rfl, rfl, rfl, rfl, rfl, ?_, ?_, ?_⟩
    · (repeat' first | exact trivial | exact rfl | refine And.intro ?_ ?_)
    · (repeat' first | exact trivial | exact rfl | refine And.intro ?_ ?_)
    intro _
    refine call_new [(0, some 0)] (rLeast_ok bf bh kp s hl) rfl rfl rfl rfl ?_ ?_ ?_
    · (repeat' first | exact trivial | exact rfl | refine And.intro ?_ ?_)
    · (repeat' first | exact trivial | exact rfl | refine And.intro ?_ ?_)
    intro v h' hv
    obtain ⟨rfl, rfl⟩ := hv
    refine ⟨[(5, some 1)], 6, [(5, .arr [.str] .grow (.recs (FT bf bh kp s)))], .tup [.grw 5 (FT bf bh kp s).length, .int .i64 (LE bf bh kp s)], rfl, rfl, rfl, rfl, rfl, ?_, ?_, ?_⟩
    · (repeat' first | exact trivial | exact rfl | refine And.intro ?_ ?_)
    · (repeat' first | exact trivial | exact rfl | refine And.intro ?_ ?_)
    intro _; refine ⟨fun g => ?_, fun g => ?_⟩
    rotate_left
    · exact absurd (show (LE bf bh kp s == LE bf bh kp s) = false from g) bqi
    intro _
    refine call_pure [(0, some 4), (1, some 5)] (sameT_ok (FT bf bh kp s) (FT bf bh kp s) (by omega) (by omega)) rfl rfl rfl ?_ ?_ ?_
    · (repeat' first | exact trivial | exact rfl | refine And.intro ?_ ?_)
    · (repeat' first | exact trivial | exact rfl | refine And.intro ?_ ?_)
    intro v hv _
    subst hv
    intro _; refine ⟨fun g => ?_, fun g => ?_⟩
    rotate_left
    · exact absurd (decide_eq_true (SameT_refl (FT bf bh kp s))) (Bool.eq_false_iff.1 (show decide (SameT (FT bf bh kp s) (FT bf bh kp s)) = false from g))
    intro _
    exact beq_self_eq_true (LE bf bh kp s)
  intro _
  refine call_new [(0, some 0)] (List_ok bf bh kp s hl) rfl rfl rfl rfl ?_ ?_ ?_
  · (repeat' first | exact trivial | exact rfl | refine And.intro ?_ ?_)
  · (repeat' first | exact trivial | exact rfl | refine And.intro ?_ ?_)
  intro v h' hv
  obtain ⟨rfl, rfl⟩ := hv
  refine ⟨[(2, some 1)], 3, [(2, .arr [.int .i64, .bool] .grow (.recs (LS bf bh kp s)))], .tup [.grw 2 (LS bf bh kp s).length, .int .i64 (LE bf bh kp s)], rfl, rfl, rfl, rfl, rfl, ?_, ?_, ?_⟩
  · (repeat' first | exact trivial | exact rfl | refine And.intro ?_ ?_)
  · (repeat' first | exact trivial | exact rfl | refine And.intro ?_ ?_)
  intro _
  refine call_new [(0, some 0)] (rList_ok bf bh kp s hl) rfl rfl rfl rfl ?_ ?_ ?_
  · (repeat' first | exact trivial | exact rfl | refine And.intro ?_ ?_)
  · (repeat' first | exact trivial | exact rfl | refine And.intro ?_ ?_)
  intro v h' hv
  obtain ⟨rfl, rfl⟩ := hv
  refine ⟨[(3, some 1)], 4, [(3, .arr [.int .i64, .bool] .grow (.recs (LS bf bh kp s)))], .tup [.grw 3 (LS bf bh kp s).length, .int .i64 (LE bf bh kp s)], rfl, rfl, rfl, rfl, rfl, ?_, ?_, ?_⟩
  · (repeat' first | exact trivial | exact rfl | refine And.intro ?_ ?_)
  · (repeat' first | exact trivial | exact rfl | refine And.intro ?_ ?_)
  intro _
  refine Or.inl ?_
  intro _
  refine call_pure [(0, some 0)] (Valid_ok bf bh kp) rfl rfl rfl ?_ ?_ ?_
  · (repeat' first | exact trivial | exact rfl | refine And.intro ?_ ?_)
  · (repeat' first | exact trivial | exact rfl | refine And.intro ?_ ?_)
  intro v hv _
  subst hv
  intro _
  refine Or.inl ?_
  intro _
  refine call_pure [(0, some 0)] (rValid_ok bf bh kp) rfl rfl rfl ?_ ?_ ?_
  · (repeat' first | exact trivial | exact rfl | refine And.intro ?_ ?_)
  · (repeat' first | exact trivial | exact rfl | refine And.intro ?_ ?_)
  intro v hv _
  subst hv
  intro _; refine ⟨fun g => ?_, fun g => ?_⟩
  rotate_left
  · exact absurd (show (decide (VB bf bh kp) == decide (VB bf bh kp)) = false from g) bq
  intro _
  refine Or.inl ?_
  intro _
  refine call_pure [(0, some 2), (1, some 3)] (same_ok (LS bf bh kp s) (LS bf bh kp s) (by omega) (by omega)) rfl rfl rfl ?_ ?_ ?_
  · (repeat' first | exact trivial | exact rfl | refine And.intro ?_ ?_)
  · (repeat' first | exact trivial | exact rfl | refine And.intro ?_ ?_)
  intro v hv _
  subst hv
  intro _; refine ⟨fun g => ?_, fun g => ?_⟩
  rotate_left
  · exact absurd (decide_eq_true (SameR_refl (LS bf bh kp s))) (Bool.eq_false_iff.1 (show decide (SameR (LS bf bh kp s) (LS bf bh kp s)) = false from g))
  intro _; refine ⟨by kernel_rfl, ?_⟩
  intro _
  refine call_new [(0, some 0)] (Least_ok bf bh kp s hl) rfl rfl rfl rfl ?_ ?_ ?_
  · (repeat' first | exact trivial | exact rfl | refine And.intro ?_ ?_)
  · (repeat' first | exact trivial | exact rfl | refine And.intro ?_ ?_)
  intro v h' hv
  obtain ⟨rfl, rfl⟩ := hv
  refine ⟨[(4, some 1)], 5, [(4, .arr [.str] .grow (.recs (FT bf bh kp s)))], .tup [.grw 4 (FT bf bh kp s).length, .int .i64 (LE bf bh kp s)], rfl, rfl, rfl, rfl, rfl, ?_, ?_, ?_⟩
  · (repeat' first | exact trivial | exact rfl | refine And.intro ?_ ?_)
  · (repeat' first | exact trivial | exact rfl | refine And.intro ?_ ?_)
  intro _
  refine call_new [(0, some 0)] (rLeast_ok bf bh kp s hl) rfl rfl rfl rfl ?_ ?_ ?_
  · (repeat' first | exact trivial | exact rfl | refine And.intro ?_ ?_)
  · (repeat' first | exact trivial | exact rfl | refine And.intro ?_ ?_)
  intro v h' hv
  obtain ⟨rfl, rfl⟩ := hv
  refine ⟨[(5, some 1)], 6, [(5, .arr [.str] .grow (.recs (FT bf bh kp s)))], .tup [.grw 5 (FT bf bh kp s).length, .int .i64 (LE bf bh kp s)], rfl, rfl, rfl, rfl, rfl, ?_, ?_, ?_⟩
  · (repeat' first | exact trivial | exact rfl | refine And.intro ?_ ?_)
  · (repeat' first | exact trivial | exact rfl | refine And.intro ?_ ?_)
  intro _; refine ⟨fun g => ?_, fun g => ?_⟩
  rotate_left
  · exact absurd (show (LE bf bh kp s == LE bf bh kp s) = false from g) bqi
  intro _
  refine call_pure [(0, some 4), (1, some 5)] (sameT_ok (FT bf bh kp s) (FT bf bh kp s) (by omega) (by omega)) rfl rfl rfl ?_ ?_ ?_
  · (repeat' first | exact trivial | exact rfl | refine And.intro ?_ ?_)
  · (repeat' first | exact trivial | exact rfl | refine And.intro ?_ ?_)
  intro v hv _
  subst hv
  intro _; refine ⟨fun g => ?_, fun g => ?_⟩
  rotate_left
  · exact absurd (decide_eq_true (SameT_refl (FT bf bh kp s))) (Bool.eq_false_iff.1 (show decide (SameT (FT bf bh kp s) (FT bf bh kp s)) = false from g))
  intro _
  exact beq_self_eq_true (LE bf bh kp s)

theorem open_strs {H : Type} {enc : TypeId × Value → H} {P : Program} {w : World} {base : Nat} {held : Bool} {r : Reach} {t e : TypeId} {v : Value} {d : DataW H} {p : List MemPlace} (ht : P.underlying t = some (.slice e)) (he : P.underlying e = some .string) (hC : P.cellsOf e = 1)
    (hval : Value.okWide P w r base t v) (h : DataW.Trod enc P w 0 (fun _ => true) held t v d p) :
    ∃ (s : Src) (l : List (List Go.Vm2.D)) (cap : Nat), s.ks = [.str] ∧ s.ac = .recs l ∧ s.lies w ∧ (s.at_ = none → l.length = 0) ∧ l.length ≤ cap ∧ v = s.val cap ∧ l.length ≤ maxLen ∧ ∀ x ∈ l, Go.Vm2.rowWf [.str] x := by
  have hne : ([.str] : List CK) ≠ [] := by simp
  letI : Facts := ⟨[], [], false⟩
  obtain ⟨ao, len, cap, rfl⟩ := okWide_slice ht hval
  obtain ⟨fuel, h⟩ := h
  rcases Go.Deep.open_slice ht h with ⟨h1, _⟩ | ⟨a, len', cap', m, n, D', Pl, h1, _, h3, h4, hm, _, hi⟩
  · have h1 : [Value.slice ao len cap] = [.slice none 0 0] := h1
    simp only [List.cons.injEq, Value.slice.injEq, and_true] at h1
    obtain ⟨rfl, rfl, rfl⟩ := h1
    exact ⟨⟨none, ([.str] : List CK), .recs []⟩, [], 0, rfl, rfl, ⟨hne, rfl⟩, fun _ => rfl, Nat.le_refl _, rfl, Nat.zero_le _, fun n hn => (List.not_mem_nil hn).elim⟩
  · have h1 : [Value.slice ao len cap] = [.slice (some a) len' cap'] := h1
    simp only [List.cons.injEq, Value.slice.injEq, and_true] at h1
    obtain ⟨rfl, rfl, rfl⟩ := h1
    have hh : w.has P r base a e cap := by
      simp only [Value.okWide, ht, Cell.okWide, Cell.ok] at hval
      exact hval.2.2
    have hlm : len ≤ m := by rw [hm]; split <;> omega
    have rows : ∀ i, i < len → ∃ ds : List Go.Vm2.D, Go.Vm2.rowWf [.str] ds ∧ ∀ j c, ([.str] : List CK)[j]? = some c → w.cell? (a.add (i * ([.str] : List CK).length + j)) = some (Go.Vm2.valOf c (ds.getD j (.n 0))) := by
      intro i hil
      obtain ⟨cs', hc, ht'⟩ := hi i (by omega)
      rw [hC] at hc
      obtain ⟨_, hcl, hat⟩ := World.cells?_some hc
      obtain ⟨m', h1, _, h3⟩ := DataW.trod_string he ht'
      refine ⟨[.s m'.data.toList], ⟨rfl, fun j c hj => ?_⟩, fun j c hj => ?_⟩
      · match j, hj with
        | 0, hj =>
          simp at hj; subst hj
          exact ⟨_, rfl, by simpa using h3⟩
        | j + 1, hj => simp at hj
      · match j, hj with
        | 0, hj =>
          simp at hj; subst hj
          have := hat 0 (by omega)
          rw [h1] at this
          rw [← Go.Deep.add_add]
          exact this
        | j + 1, hj => simp at hj
    obtain ⟨l, l1, l2⟩ := Go.Vm2.pick_list len rows
    obtain ⟨b, off, spot⟩ := a
    obtain ⟨rfl, c, tt, fz, hb, hoff⟩ := Go.Vm2.has_lies hh
    have hb : w.heap[b]? = some (.cells c tt fz) := hb
    have hz : 0 < ([.str] : List CK).length := List.length_pos_iff.2 hne
    have cellAt : ∀ i j ck, i < len → ([.str] : List CK)[j]? = some ck → c[off + (i * ([.str] : List CK).length + j)]? = some (Go.Vm2.valOf ck (((l.getD i []).getD j (.n 0)))) := by
      intro i j ck hil hck
      have e : l[i]? = some (l.getD i []) := by rw [List.getD_eq_getElem?_getD, List.getElem?_eq_getElem (by omega)]; rfl
      have := (l2 i _ e).2 j ck hck
      rw [add_plain] at this
      unfold World.cell? at this
      rw [hb] at this
      simpa using this
    refine ⟨⟨some (b, off), ([.str] : List CK), .recs l⟩, l, cap, rfl, rfl, ⟨hne, c, tt, fz, hb, ?_, ?_⟩, (fun e => by cases e), by omega, ?_, by omega, fun x hx => ?_⟩
    · show off + l.length * ([.str] : List CK).length ≤ c.size
      rcases Nat.eq_zero_or_pos len with h0 | h0
      · rw [l1, h0, Nat.zero_mul]; exact hoff
      · have hk : ([.str] : List CK)[([.str] : List CK).length - 1]? = some ([.str] : List CK)[([.str] : List CK).length - 1] := List.getElem?_eq_getElem (by omega)
        have := (Array.getElem?_eq_some_iff.1 (cellAt (len - 1) (([.str] : List CK).length - 1) _ (by omega) hk)).1
        rw [l1]
        have e : len * ([.str] : List CK).length = (len - 1) * ([.str] : List CK).length + ([.str] : List CK).length := by
          have : len = (len - 1) + 1 := by omega
          rw [this, Nat.add_mul, Nat.one_mul]; simp
        omega
    · intro i ck dd hii
      simp only [AC.avs] at hii
      have hfl' := Go.Vm2.flat_length (fun x => Go.Vm2.rowAV_length ([.str] : List CK) 0 x) l
      have hil : i < l.length * ([.str] : List CK).length := by rw [← hfl']; exact (List.getElem?_eq_some_iff.1 hii).1
      have q1 := Nat.div_add_mod i ([.str] : List CK).length
      have q2 := Nat.mod_lt i hz
      have q3 : i / ([.str] : List CK).length < l.length := (Nat.div_lt_iff_lt_mul hz).2 hil
      have hi' : i = i / ([.str] : List CK).length * ([.str] : List CK).length + i % ([.str] : List CK).length := by rw [Nat.mul_comm]; omega
      have e : l[i / ([.str] : List CK).length]? = some (l.getD (i / ([.str] : List CK).length) []) := by rw [List.getD_eq_getElem?_getD, List.getElem?_eq_getElem q3]; rfl
      have hk : ([.str] : List CK)[i % ([.str] : List CK).length]? = some ([.str] : List CK)[i % ([.str] : List CK).length] := List.getElem?_eq_getElem q2
      have f1 := Go.Vm2.flat_get (fun x => Go.Vm2.rowAV_length ([.str] : List CK) 0 x) (i / ([.str] : List CK).length) l _ e (i % ([.str] : List CK).length) q2
      rw [← hi', hii, Go.Vm2.rowAV_get ([.str] : List CK) 0 _ _ _ hk, Nat.zero_add] at f1
      have f2 := cellAt (i / ([.str] : List CK).length) (i % ([.str] : List CK).length) _ (by omega) hk
      rw [← hi'] at f2
      show c[off + i]? = some (Go.Vm2.valOf ck dd)
      rw [f2]
      simp only [Option.some.injEq] at f1
      congr 1
      revert f1
      generalize ([.str] : List CK)[i % ([.str] : List CK).length] = c2
      generalize (l.getD (i / ([.str] : List CK).length) []).getD (i % ([.str] : List CK).length) (.n 0) = d2
      intro f1
      cases ck <;> cases c2 <;> simp only [CK.av, Go.Vm.AV.int.injEq, Go.Vm.AV.bool.injEq, Go.Vm.AV.str.injEq, reduceCtorEq] at f1 <;> simp only [Go.Vm2.valOf]
      · rw [f1.1, f1.2]
      · rw [f1]
      · rw [f1]
    · show Value.slice (some ⟨b, off, none⟩) len cap = Value.slice (some ⟨b, off, none⟩) l.length cap
      rw [l1]
    · obtain ⟨i, hi', rfl⟩ := List.getElem_of_mem hx
      exact (l2 i _ (List.getElem?_eq_getElem hi')).1
theorem agg_cv {n : Nat} {ν : Nu} {vs : List V} {as' : List Go.Vm.AV} (h : Cvs n ν vs as') : Cv n ν (.agg vs) (.agg as') := by
  simp only [Cv]; exact ⟨as', rfl, h⟩
def fieldsSt (P : Program) : Nat → List Field → List TypeId → Bool
  | _, [], [] => true
  | j, f :: fs, u :: us => Nat.beq f.offset j && Nat.beq (P.cellsOf f.type) 1 && Nat.beq f.type u && fieldsSt P (j + 1) fs us
  | _, _, _ => false
theorem fieldsSt_get {P : Program} : ∀ {fs : List Field} {ts : List TypeId} {j0 : Nat}, fieldsSt P j0 fs ts = true → ∀ (j : Nat) (u : TypeId), ts[j]? = some u → ∃ f, fs[j]? = some f ∧ f.offset = j0 + j ∧ P.cellsOf f.type = 1 ∧ f.type = u
  | [], [], _, _ => fun j u e => by simp at e
  | [], _ :: _, _, h => by simp [fieldsSt] at h
  | _ :: _, [], _, h => by simp [fieldsSt] at h
  | f :: fs, u :: us, j0, h => by
    simp only [fieldsSt, Bool.and_eq_true] at h
    obtain ⟨⟨⟨h1, h2⟩, h3⟩, h4⟩ := h
    intro j u' e
    cases j with
    | zero =>
      simp at e; subst e
      exact ⟨f, rfl, Nat.eq_of_beq_eq_true h1, Nat.eq_of_beq_eq_true h2, Nat.eq_of_beq_eq_true h3⟩
    | succ j =>
      simp at e
      obtain ⟨f', e1, e2, e3⟩ := fieldsSt_get h4 j u' e
      exact ⟨f', by simpa using e1, by rw [e2]; omega, e3⟩
theorem open_st {H : Type} {enc : TypeId × Value → H} {P : Program} {w : World} {base : Nat} {spare : Nat → Bool} {held : Bool} {r : Reach} {t : TypeId} {fs : Array Field} {ts : List TypeId} {v : Value} {d : DataW H} {p : List MemPlace} (ht : P.underlying t = some (.struct fs)) (hts : P.cellTypes P.depth t = some ts) (hC : P.cellsOf t = ts.length) (hf : fieldsSt P 0 fs.toList ts = true)
    (hval : Value.okWide P w r base t v) (h : DataW.Trod enc P w 0 spare held t v d p) :
    ∃ cs : Array Value, v = .agg cs ∧ cs.size = ts.length ∧ ∀ (j : Nat) (u : TypeId), ts[j]? = some u → ∃ x d' p' fuel, cs[j]? = some x ∧ Cell.okWide P w r base u x ∧ DataW.trod enc P w 0 spare held fuel u [x] = some (d', p') := by
  unfold Value.okWide at hval
  rw [ht] at hval
  obtain ⟨cs, rfl, hs, ts', ht', _, hk⟩ := hval
  rw [hts] at ht'
  simp only [Option.some.injEq] at ht'
  subst ht'
  obtain ⟨fuel, h⟩ := h
  obtain ⟨xs, n, _, _, hl, hxl, hf'⟩ := DataW.trod_struct ht h
  refine ⟨cs, rfl, by rw [hs, hC], fun j u hu => ?_⟩
  obtain ⟨f, e1, e2, e3, rfl⟩ := fieldsSt_get hf j u hu
  have hj : j < ts.length := (List.getElem?_eq_some_iff.1 hu).1
  have hjc : j < cs.size := by rw [hs, hC]; exact hj
  obtain ⟨u', hu', hok⟩ := hk j cs[j] (by simp [hjc])
  rw [Nat.mod_eq_of_lt hj, hu] at hu'
  cases hu'
  have e4 := hf' j f (by simpa using e1)
  rw [e2, e3, Nat.zero_add] at e4
  have e5 : ((Value.agg cs).cells.toList.drop j).take 1 = [cs[j]] := by
    show (cs.toList.drop j).take 1 = _
    rw [List.drop_eq_getElem_cons (by simpa using hjc)]; simp
  rw [e5] at e4
  have hjf : j < fs.toList.length := (List.getElem?_eq_some_iff.1 e1).1
  have hjx : j < xs.length := by rw [hxl]; simpa using hjf
  rw [List.getElem?_eq_getElem hjx] at e4
  exact ⟨cs[j], xs[j].1, xs[j].2, n, by simp [hjc], hok, e4⟩
theorem walk (w : World) (bf : Int) (w_bf : (Lit.int .i64 bf).wf = true) (bh : Int) (w_bh : (Lit.int .i64 bh).wf = true) (v_kp : Value) (s_kp : Src) (kp : List (List Go.Vm2.D)) (cap_kp : Nat) (hk_kp : s_kp.ks = [.str]) (ha_kp : s_kp.ac = .recs kp) (hs_kp : s_kp.lies w) (hn_kp : s_kp.at_ = none → kp.length = 0) (hc_kp : kp.length ≤ cap_kp) (hv_kp : v_kp = s_kp.val cap_kp) (hm_kp : kp.length ≤ maxLen) (w_kp : ∀ n ∈ kp, rowWf [.str] n) (s : List UInt8) (m_s : s.length ≤ maxLen) :
    Calls Try.prog 3 #[.agg #[.int .i64 bf, .int .i64 bh, v_kp], .string ⟨s.toArray⟩] w fun e w' => e = .returned (.bool true) ∧ Below w.heap.size w w' := by
  obtain ⟨at_kp, ks_kp, ac_kp⟩ := s_kp
  simp only [] at hk_kp ha_kp
  subst hk_kp ha_kp
  have h_kp : kp.length ≤ 9223372036854775807 := by unfold maxLen at hm_kp; omega
  have b_bf := w_bf
  simp [Lit.wf, IntKind.min, IntKind.max, IntKind.signed, IntKind.bits] at b_bf
  have b_bh := w_bh
  simp [Lit.wf, IntKind.min, IntKind.max, IntKind.signed, IntKind.bits] at b_bh
  have h_s : s.length ≤ 9223372036854775807 := by unfold maxLen at m_s; omega
  exact top_run (by kernel_rfl) (by kernel_rfl) (T := [9]) (fun f hf w => by
      rcases List.mem_cons.1 hf with e | e
      · subst e; exact head w
      · exact (List.not_mem_nil e).elim) (l := [⟨at_kp, [.str], .recs kp⟩]) (args := [.agg [.int .i64 bf, .int .i64 bh, .slc 0 1 0 kp.length], .str s]) («as» := [.agg [.int .i64 bf, .int .i64 bh, Src.av 0 cap_kp ⟨at_kp, [.str], .recs kp⟩], .str s]) (cargs := [.agg #[.int .i64 bf, .int .i64 bh, v_kp], .string ⟨s.toArray⟩]) w
    (fun s h => by
      rcases List.mem_cons.1 h with e | h
      · subst e; exact hs_kp
      · exact (List.not_mem_nil h).elim)
    (Cvs.cons (agg_cv (Cvs.cons mk_int (Cvs.cons mk_int (Cvs.cons (src_cv (s := ⟨at_kp, [.str], .recs kp⟩) rfl 1 hc_kp hn_kp) Cvs.nil)))) (Cvs.cons mk_str Cvs.nil))
    (by simp only [Go.Vm.convs, Go.Vm.conv]; rw [src_conv (j := 0) (s := ⟨at_kp, [.str], .recs kp⟩) rfl]; subst hv_kp; rfl)
    ((law3 bf bh kp s h_s))

set_option maxRecDepth 100000 in
theorem lifted (os : Os) (started : os.Started) (H : Type) (enc : TypeId × Value → H) :
    ReturnsInHanded {} Try.checked os 3 .any (Rows.breaksMatchesReferenceSpec.pre6 enc Try.prog Try.f3 Rows.breaksMatchesReferenceRow.domain false) (Rows.breaksMatchesReferenceSpec.post enc Try.prog Try.f3 false true false false) := by
  refine returnsInHanded_of_change (C := Try.checked) own started (by kernel_rfl) Try.func3
    (ChangeSpec.witness6 (enc := enc) (C := Try.checked) false ⟨#[], #[.agg #[.int .i64 0, .int .i64 0, .slice none 0 0], .string ⟨#[]⟩], []⟩ 8 (by kernel_rfl) (by kernel_rfl) (by kernel_rfl) (by kernel_rfl)) ?_
  intro W base args ds gs before hval0 hW hcnd _
  have hval : ∀ (j : Nat) t v, Try.f3.params[j]? = some t → args[j]? = some v → Value.okWide Try.prog W .any base t v := hval0
  have hW' := hW
  obtain ⟨p, q, hA0, hV, rfl, hfz, hnd⟩ := hW
  have hA : DataW.TrodAll enc Try.prog W 0 (fun _ => true) true Try.f3.params.toList args.toList ds p := hA0
  rw [Try.params3] at hA hval
  obtain ⟨v0, vs0, d0, ds0, p0, q0, hargs, rfl, rfl, h0, r0⟩ := trodAll_cons hA
  obtain ⟨v1, vs1, d1, ds1, p1, q1, rfl, rfl, rfl, h1, r1⟩ := trodAll_cons r0
  obtain ⟨rfl, rfl, rfl⟩ := trodAll_nil r1
  obtain rfl : args = #[v0, v1] := by cases args; simp_all
  obtain ⟨rfl, rfl⟩ := trodVars_none hV
  obtain ⟨cs_b, rfl, hz_b, hs_b⟩ := open_st (ts := [3, 3, 22]) Try.underlying24 (by kernel_rfl) (by kernel_rfl) (by kernel_rfl) (hval 0 24 v0 rfl rfl) h0
  have hlt0 : ∀ x ∈ p0, x.block < W.heap.size := fun x hx => by simpa using hW'.lt x (by simp [hx])
  obtain ⟨x_bf, d_bf, p_bf, fu_bf, hx_bf, hk0_bf, ht_bf⟩ := hs_b 0 3 rfl
  have hkk_bf : Value.okWide Try.prog W .any base 3 x_bf := by unfold Value.okWide; rw [Try.underlying3]; exact hk0_bf
  obtain ⟨x_bh, d_bh, p_bh, fu_bh, hx_bh, hk0_bh, ht_bh⟩ := hs_b 1 3 rfl
  have hkk_bh : Value.okWide Try.prog W .any base 3 x_bh := by unfold Value.okWide; rw [Try.underlying3]; exact hk0_bh
  obtain ⟨x_kp, d_kp, p_kp, fu_kp, hx_kp, hk0_kp, ht_kp⟩ := hs_b 2 22 rfl
  have hkk_kp : Value.okWide Try.prog W .any base 22 x_kp := by unfold Value.okWide; rw [Try.underlying22]; exact hk0_kp
  have hcs_b : cs_b = #[x_bf, x_bh, x_kp] := by
    refine Array.ext (by rw [hz_b]; rfl) fun i h1 h2 => ?_
    have hi : i < 3 := by simpa using h2
    rcases i with _ | _ | _ | i
    · have := hx_bf; rw [Array.getElem?_eq_getElem h1] at this; exact Option.some.inj this
    · have := hx_bh; rw [Array.getElem?_eq_getElem h1] at this; exact Option.some.inj this
    · have := hx_kp; rw [Array.getElem?_eq_getElem h1] at this; exact Option.some.inj this
    · omega
  subst hcs_b
  obtain ⟨bf, hq_bf, _, w_bf⟩ := DataW.trod_int Try.underlying3 ht_bf
  simp only [List.cons.injEq, and_true] at hq_bf
  subst hq_bf
  obtain ⟨bh, hq_bh, _, w_bh⟩ := DataW.trod_int Try.underlying3 ht_bh
  simp only [List.cons.injEq, and_true] at hq_bh
  subst hq_bh
  have htt_kp : DataW.Trod enc Try.prog W 0 (fun _ => true) true 22 x_kp d_kp p_kp := by obtain ⟨ao, len, cap, rfl⟩ := okWide_slice Try.underlying22 hkk_kp; exact ⟨fu_kp, ht_kp⟩
  obtain ⟨s_kp, kp, cap_kp, hk_kp, ha_kp, hs_kp, hn_kp, hc_kp, hv_kp, hm_kp, w_kp⟩ := open_strs Try.underlying22 Try.underlying9 (by kernel_rfl) hkk_kp htt_kp
  obtain ⟨sb_s, rfl, rfl, rfl, m0_s⟩ := Go.ChangeMaps.open_string Try.underlying9 (hval 1 9 v1 rfl rfl) h1
  obtain ⟨s, rfl⟩ : ∃ a : List UInt8, sb_s = ⟨a.toArray⟩ := ⟨sb_s.data.toList, by cases sb_s; simp⟩
  clear hA0 hval0
  refine (walk W bf w_bf bh w_bh x_kp s_kp kp cap_kp hk_kp ha_kp hs_kp hn_kp hc_kp hv_kp hm_kp w_kp s (by simpa [ByteArray.size] using m0_s)).mono fun e W' ⟨he, hg⟩ => ?_
  subst he
  exact ⟨_, rfl, _, _, _, [], _, [], hW', trodAll_cons_mk (shut_bool Try.underlying4 _) trodAll_mk0, (trodAll_cons_mk (Below.trod laidOut (by kernel_rfl) (of_decide_eq_true (by kernel_rfl)) h0 hg hlt0) (trodAll_cons_mk (Go.ChangeMaps.shut_string Try.underlying9 m0_s) trodAll_mk0)), rfl, hg.frame _, fun h => by cases h⟩

theorem over : Rows.breaksMatchesReferenceRow.holds Try.pinned (OpenSpec.ofChange Rows.breaksMatchesReferenceSpec) :=
  OpenClaim.holds_of_wide 3 Try.f3 rfl rfl rfl rfl rfl rfl rfl ⟨rfl, rfl, rfl, rfl, rfl⟩ rfl rfl rfl rfl rfl (by kernel_rfl) Try.func3 (by kernel_rfl)
    (of_decide_eq_true (by kernel_rfl)) (by unfold Func.isWrapper; first | (rw [if_pos (by decide +kernel)]; kernel_rfl) | (rw [if_neg (by decide +kernel)]; exact ⟨rfl, rfl⟩))
    (fun os started H enc _ => lifted os started H enc)

/-- the statement -/
theorem proved : Rows.BreaksMatchesReferenceSaid :=
  over
#print axioms proved
end Go.Proofs.Ytbjidlekfoabaaa.breaksMatchesReference
