/-
  FloatsMatchesReference: whatever the arguments, the law returns true, and its arguments read as before. No conditions.
-/
import Derived.Test.YtfkpnondknfmeaaRows
import Derived.Test.YtfkpnondknfmeaaVwOpen2
import Derived.Test.YtfkpnondknfmeaaVwRules7
import Derived.Test.YtfkpnondknfmeaaVmFast3
import Derived.WalkKit
import Derived.ProofKit
import Derived.OpenShut
import Derived.Carry
import Derived.Test.YtfkpnondknfmeaaSrtA
import Derived.Test.YtfkpnondknfmeaaSrtB
import Derived.Test.YtfkpnondknfmeaaPlcA
namespace Go.Proofs.Ytfkpnondknfmeaa.floatsMatchesReference
open Go.ChangeShapes Go.WideShapes Go.ChangeAt Go.RowKit
open Go.Vm (Facts Val Sound)
open Go.Vm2
set_option linter.unusedVariables false
set_option linter.unusedSectionVars false

open Go.Proofs.Ytfkpnondknfmeaa.floatsApart
theorem own : ownKnob Try.prog.godebug = none := by kernel_rfl
theorem laidOut : laidOutB Try.prog = true := by kernel_rfl
set_option maxRecDepth 100000
abbrev Rows := List (List Go.Vm2.D)
theorem rr_mark : True := trivial
set_option maxHeartbeats 2000000 in
theorem rroom_ok (l : Rows) (W y h : Int) (hV : Vd l W) (hy : 0 ≤ y ∧ y ≤ 2000000000) (hh : 0 ≤ h ∧ h ≤ 1000000) : SemF Try.prog 27 [.slc 0 5 0 l.length, .int .i64 W, .int .i64 y, .int .i64 h] ⟨1, 1, [(0, .arr [.int .i64, .int .i64, .int .i64, .int .i64, .int .i64] .rd (.recs l))]⟩ (fun v _ => v = .agg [.int .i64 (Lo l y h l.length), .int .i64 (max (Hi l W y h l.length) (Lo l y h l.length))] ∧ nameless v = true) := by
  obtain ⟨⟨h200, hW⟩, hF⟩ := hV
  refine enter tt_ok Try.func27 (nt := 66) (cd := body Try.f27) rfl rfl rfl rfl ?_
  intro _
  refine loop2 tt_ok [10] [2] 3 (fun k : { k : Nat // k ≤ l.length } => [(10, .int .i64 (k : Nat))]) (fun k => [(2, .cells [.int .i64 (Lo l y h k), .int .i64 (Hi l W y h k)])]) (fun k => l.length - k) ⟨0, by omega⟩ ?_
  intro _
  refine ⟨⟨th [] 3, rfl, rfl, rfl, rfl, rfl, rfl, ?_, ?_⟩, ?_⟩
  · (repeat' first | exact trivial | exact rfl | refine And.intro ?_ ?_)
  · (repeat' first | exact trivial | exact rfl | refine And.intro ?_ ?_)
  intro ⟨k, hk⟩
  have z : 0 + k = k := Nat.zero_add k
  intro _; refine ⟨fun g => ?_, fun g => ?_⟩
  rotate_left
  · have hkl := of_decide_eq_false (show decide ((k : Int) < (l.length : Int)) = false from g)
    obtain rfl : k = l.length := by omega
    intro _
    refine ⟨?_, rfl⟩
    show V.agg [.int .i64 (Lo l y h l.length), .int .i64 (max (Lo l y h l.length) (Hi l W y h l.length))] = _
    rw [Int.max_comm]
  have hkl := of_decide_eq_true (show decide ((k : Int) < (l.length : Int)) = true from g)
  have i1 : 0 ≤ (k : Int) ∧ (k : Int) < (l.length : Int) := by omega
  have i2 : 0 + (k : Int).toNat < l.length := by omega
  intro _; refine ⟨i1, ?_⟩
  intro _; refine ⟨i2, ?_⟩
  obtain ⟨f0, f1, f2, f3, f4⟩ := hF k (by omega)
  have eh : (decide (fh l (0 + k) > 0 ∧ fy l (0 + k) < IntKind.i64.wrap (y + max h 1) ∧ IntKind.i64.wrap (fy l (0 + k) + fh l (0 + k)) > y)) = hs l y h k := by
    rw [z, wrapS _ ⟨by omega, by omega⟩, wrapS _ ⟨by omega, by omega⟩]; rfl
  have ek := (wrap_nat k (by omega)).symm
  intro _
  refine call_pure [] (beside_ok y h (sd l (0 + k)) (fx l (0 + k)) (fy l (0 + k)) (fw l (0 + k)) (fh l (0 + k))) rfl rfl rfl ?_ ?_ ?_
  · (repeat' first | exact trivial | exact rfl | refine And.intro ?_ ?_)
  · (repeat' first | exact trivial | exact rfl | refine And.intro ?_ ?_)
  intro v hv _
  subst hv
  intro _; refine ⟨fun g => ?_, fun g => ?_⟩
  · have g : (!(decide (fh l (0 + k) > 0 ∧ fy l (0 + k) < IntKind.i64.wrap (y + max h 1) ∧ IntKind.i64.wrap (fy l (0 + k) + fh l (0 + k)) > y))) = true := g
    rw [eh, Bool.not_eq_true'] at g
    refine ⟨⟨k + 1, by omega⟩, by show l.length - (k + 1) < l.length - k; omega, th [] 3, rfl, rfl, rfl, rfl, rfl, rfl, ?_, ?_⟩
    · (repeat' first | exact trivial | exact rfl | refine And.intro ?_ ?_)
      exact ek
    · (repeat' first | exact trivial | exact rfl | refine And.intro ?_ ?_)
      · show Lo l y h (k + 1) = Lo l y h k
        show (if hs l y h k = true ∧ sd l k = 1 then max (Lo l y h k) (fx l k + fw l k) else Lo l y h k) = _; rw [if_neg (by rw [g]; simp)]
      · show Hi l W y h (k + 1) = Hi l W y h k
        show (if hs l y h k = true ∧ sd l k ≠ 1 then min (Hi l W y h k) (fx l k) else Hi l W y h k) = _; rw [if_neg (by rw [g]; simp)]
  have g : (!(decide (fh l (0 + k) > 0 ∧ fy l (0 + k) < IntKind.i64.wrap (y + max h 1) ∧ IntKind.i64.wrap (fy l (0 + k) + fh l (0 + k)) > y))) = false := g
  rw [eh, Bool.not_eq_false'] at g
  have hh1 := g
  have eF : IntKind.i64.wrap (fx l (0 + k) + fw l (0 + k)) = fx l k + fw l k := by rw [z]; exact wrapS _ ⟨by omega, by omega⟩
  intro _; refine ⟨i1, ?_⟩
  intro _; refine ⟨i2, ?_⟩
  intro _; refine ⟨fun g => ?_, fun g => ?_⟩
  · have g : (sd l (0 + k) == 1) = true := g
    rw [z] at g
    have s1 : sd l k = 1 := by simpa using g
    intro _; refine ⟨i1, ?_⟩
    intro _; refine ⟨i2, ?_⟩
    intro _; refine ⟨i1, ?_⟩
    intro _; refine ⟨i2, ?_⟩
    intro _; refine ⟨by kernel_rfl, ?_⟩
    refine ⟨⟨k + 1, by omega⟩, by show l.length - (k + 1) < l.length - k; omega, th [] 3, rfl, rfl, rfl, rfl, rfl, rfl, ?_, ?_⟩
    · (repeat' first | exact trivial | exact rfl | refine And.intro ?_ ?_)
      exact ek
    · (repeat' first | exact trivial | exact rfl | refine And.intro ?_ ?_)
      · show (if hs l y h k = true ∧ sd l k = 1 then max (Lo l y h k) (fx l k + fw l k) else Lo l y h k) = max (Lo l y h k) (IntKind.i64.wrap (fx l (0 + k) + fw l (0 + k)))
        rw [if_pos ⟨hh1, s1⟩, eF]
      · show (if hs l y h k = true ∧ sd l k ≠ 1 then min (Hi l W y h k) (fx l k) else Hi l W y h k) = _; rw [if_neg (fun h => h.2 s1)]
  · have g : (sd l (0 + k) == 1) = false := g
    rw [z] at g
    have s1 : sd l k ≠ 1 := by simpa using g
    intro _; refine ⟨i1, ?_⟩
    intro _; refine ⟨i2, ?_⟩
    intro _; refine ⟨by kernel_rfl, ?_⟩
    refine ⟨⟨k + 1, by omega⟩, by show l.length - (k + 1) < l.length - k; omega, th [] 3, rfl, rfl, rfl, rfl, rfl, rfl, ?_, ?_⟩
    · (repeat' first | exact trivial | exact rfl | refine And.intro ?_ ?_)
      exact ek
    · (repeat' first | exact trivial | exact rfl | refine And.intro ?_ ?_)
      · show (if hs l y h k = true ∧ sd l k = 1 then max (Lo l y h k) (fx l k + fw l k) else Lo l y h k) = _; rw [if_neg (fun h => s1 h.2)]
      · show (if hs l y h k = true ∧ sd l k ≠ 1 then min (Hi l W y h k) (fx l k) else Hi l W y h k) = min (Hi l W y h k) (fx l (0 + k)); rw [if_pos ⟨hh1, s1⟩, z]
set_option maxHeartbeats 2000000 in
theorem free_ok (l : Rows) (W y w h : Int) (hV : Vd l W) (hy : 0 ≤ y ∧ y ≤ 2000000000) (hh : 0 ≤ h ∧ h ≤ 1000000) : SemF Try.prog 20 [.slc 0 5 0 l.length, .int .i64 W, .int .i64 y, .int .i64 w, .int .i64 h] ⟨1, 1, [(0, .arr [.int .i64, .int .i64, .int .i64, .int .i64, .int .i64] .rd (.recs l))]⟩ (fun v _ => v = .test (decide (FreeAt l W y w h)) ∧ nameless v = true) := by
  refine SemF.test ?_
  refine enter tt_ok Try.func20 (nt := 48) (cd := body Try.f20) rfl rfl rfl rfl ?_
  intro _
  refine loop2 tt_ok [12, 11] [] 1 (fun k : { k : Nat // k ≤ l.length } => [(12, .int .i64 (k : Nat)), (11, .test (Fr l y h k))]) (fun k => []) (fun k => l.length - k) ⟨0, by omega⟩ ?_
  intro _
  refine ⟨⟨th [] 1, rfl, rfl, rfl, rfl, rfl, rfl, ?_, ?_⟩, ?_⟩
  · (repeat' first | exact trivial | exact rfl | refine And.intro ?_ ?_)
  · (repeat' first | exact trivial | exact rfl | refine And.intro ?_ ?_)
  intro ⟨k, hk⟩
  have z : 0 + k = k := Nat.zero_add k
  have h2c := hV.1.1
  intro _; refine ⟨fun g => ?_, fun g => ?_⟩
  rotate_left
  · have hkl := of_decide_eq_false (show decide ((k : Int) < (l.length : Int)) = false from g)
    obtain rfl : k = l.length := by omega
    intro _
    refine call_pure [(0, some 0)] (rroom_ok l W y h hV hy hh) rfl rfl rfl ?_ ?_ ?_
    · (repeat' first | exact trivial | exact rfl | refine And.intro ?_ ?_)
    · (repeat' first | exact trivial | exact rfl | refine And.intro ?_ ?_)
    intro v hv _
    subst hv
    have bl := lo_bd (y := y) (h := h) hV l.length (Nat.le_refl _)
    have bh := hi_bd (y := y) (h := h) hV l.length (Nat.le_refl _)
    intro _; refine ⟨fun g => ?_, fun g => ?_⟩
    · have g : Fr l y h l.length = true := g
      intro _
      exact ⟨true, .inl rfl, by rw [decide_eq_true (show FreeAt l W y w h from .inl g)], rfl⟩
    · have g : Fr l y h l.length = false := g
      intro _
      refine ⟨_, .inr rfl, ?_, rfl⟩
      have e : decide (FreeAt l W y w h) = decide (w ≤ IntKind.i64.wrap (max (Hi l W y h l.length) (Lo l y h l.length) - Lo l y h l.length)) := by
        rw [wrapS _ ⟨by omega, by omega⟩]
        refine decide_eq_decide.2 ⟨fun q => q.elim (fun q => by rw [g] at q; cases q) id, .inr⟩
      exact congrArg V.test e.symm
  have hkl := of_decide_eq_true (show decide ((k : Int) < (l.length : Int)) = true from g)
  intro _; refine ⟨show 0 ≤ (k : Int) ∧ (k : Int) < (l.length : Int) by omega, ?_⟩
  intro _; refine ⟨show 0 + (k : Int).toNat < l.length by omega, ?_⟩
  obtain ⟨f0, f1, f2, f3, f4⟩ := hV.2 k (by omega)
  have eh : (decide (fh l (0 + k) > 0 ∧ fy l (0 + k) < IntKind.i64.wrap (y + max h 1) ∧ IntKind.i64.wrap (fy l (0 + k) + fh l (0 + k)) > y)) = hs l y h k := by
    rw [z, wrapS _ ⟨by omega, by omega⟩, wrapS _ ⟨by omega, by omega⟩]; rfl
  have ek := (wrap_nat k (by omega)).symm
  intro _
  refine call_pure [] (beside_ok y h (sd l (0 + k)) (fx l (0 + k)) (fy l (0 + k)) (fw l (0 + k)) (fh l (0 + k))) rfl rfl rfl ?_ ?_ ?_
  · (repeat' first | exact trivial | exact rfl | refine And.intro ?_ ?_)
  · (repeat' first | exact trivial | exact rfl | refine And.intro ?_ ?_)
  intro v hv _
  subst hv
  intro _; refine ⟨fun g => ?_, fun g => ?_⟩
  · have g : Fr l y h k = true := g
    refine ⟨⟨k + 1, by omega⟩, by show l.length - (k + 1) < l.length - k; omega, th [] 1, rfl, rfl, rfl, rfl, rfl, rfl, ?_, ?_⟩
    · (repeat' first | exact trivial | exact rfl | refine And.intro ?_ ?_)
      · exact ek
      · show (!hs l y h k && Fr l y h k) = !(decide (fh l (0 + k) > 0 ∧ fy l (0 + k) < IntKind.i64.wrap (y + max h 1) ∧ IntKind.i64.wrap (fy l (0 + k) + fh l (0 + k)) > y))
        rw [eh, g, Bool.and_true]
    · (repeat' first | exact trivial | exact rfl | refine And.intro ?_ ?_)
  · have g : Fr l y h k = false := g
    refine ⟨⟨k + 1, by omega⟩, by show l.length - (k + 1) < l.length - k; omega, th [] 1, rfl, rfl, rfl, rfl, rfl, rfl, ?_, ?_⟩
    · (repeat' first | exact trivial | exact rfl | refine And.intro ?_ ?_)
      · exact ek
      · show (!hs l y h k && Fr l y h k) = false
        rw [g, Bool.and_false]
    · (repeat' first | exact trivial | exact rfl | refine And.intro ?_ ?_)
set_option maxHeartbeats 2000000 in
theorem same_ok (l r : Rows) (n : Nat) (hn : n ≤ 9223372036854775806) (h1 : n ≤ l.length) (h2 : n ≤ r.length) (he : ∀ i, i < n → l.getD i [] = r.getD i []) : SemF Try.prog 18 [.slc 0 5 0 n, .slc 1 5 0 n] ⟨2, 2, [(0, .arr [.int .i64, .int .i64, .int .i64, .int .i64, .int .i64] .rd (.recs l)), (1, .arr [.int .i64, .int .i64, .int .i64, .int .i64, .int .i64] .rd (.recs r))]⟩ (fun v _ => v = .test true ∧ nameless v = true) := by
  refine SemF.test ?_
  refine enter tt_ok Try.func18 (nt := 26) (cd := body Try.f18) rfl rfl rfl rfl ?_
  intro _; refine ⟨fun g => ?_, fun g => ?_⟩
  · exfalso
    have g : ((n : Int) != (n : Int)) = true := g
    simp at g
  intro _
  refine loop2 tt_ok [5] [] 2 (fun k : { k : Nat // k ≤ n } => [(5, .int .i64 (k : Nat))]) (fun k => []) (fun k => n - k) ⟨0, by omega⟩ ?_
  intro _
  refine ⟨⟨th [] 2, rfl, rfl, rfl, rfl, rfl, rfl, ?_, ?_⟩, ?_⟩
  · (repeat' first | exact trivial | exact rfl | refine And.intro ?_ ?_)
  · (repeat' first | exact trivial | exact rfl | refine And.intro ?_ ?_)
  intro ⟨k, hk⟩
  have z : 0 + k = k := Nat.zero_add k
  intro _; refine ⟨fun g => ?_, fun g => ?_⟩
  rotate_left
  · intro _
    exact ⟨true, .inl rfl, rfl, rfl⟩
  have hkl := of_decide_eq_true (show decide ((k : Int) < (n : Int)) = true from g)
  have i1 : 0 ≤ (k : Int) ∧ (k : Int) < (n : Int) := by omega
  intro _; refine ⟨i1, ?_⟩
  intro _; refine ⟨show 0 + (k : Int).toNat < l.length by omega, ?_⟩
  intro _; refine ⟨i1, ?_⟩
  intro _; refine ⟨show 0 + (k : Int).toNat < r.length by omega, ?_⟩
  intro _; refine ⟨by kernel_rfl, ?_⟩
  intro _; refine ⟨fun g => ?_, fun g => ?_⟩
  · exfalso
    have g : (!(sd l (0 + k) == sd r (0 + k) && (fx l (0 + k) == fx r (0 + k) && (fy l (0 + k) == fy r (0 + k) && (fw l (0 + k) == fw r (0 + k) && fh l (0 + k) == fh r (0 + k)))))) = true := g
    unfold sd fx fy fw fh at g
    rw [z, he k (by omega)] at g
    simp at g
  refine ⟨⟨k + 1, by omega⟩, by show n - (k + 1) < n - k; omega, th [] 2, rfl, rfl, rfl, rfl, rfl, rfl, ?_, ?_⟩
  · (repeat' first | exact trivial | exact rfl | refine And.intro ?_ ?_)
    exact (wrap_nat k (by omega)).symm
  · (repeat' first | exact trivial | exact rfl | refine And.intro ?_ ?_)
theorem RRoom_ok (l : Rows) (W y h : Int) (hl : l.length ≤ 9223372036854775807) : SemF Try.prog 11 [.slc 0 5 0 l.length, .int .i64 W, .int .i64 y, .int .i64 h] ⟨1, 1, [(0, .arr [.int .i64, .int .i64, .int .i64, .int .i64, .int .i64] .rd (.recs l))]⟩ (fun v _ => v = RQ l W y h ∧ nameless v = true) := by
  refine enter tt_ok Try.func11 (nt := 36) (cd := body Try.f11) rfl rfl rfl rfl ?_
  intro _
  refine call_pure [(0, some 0)] (rvalid_ok l W hl) rfl rfl rfl ?_ ?_ ?_
  · (repeat' first | exact trivial | exact rfl | refine And.intro ?_ ?_)
  · (repeat' first | exact trivial | exact rfl | refine And.intro ?_ ?_)
  intro v hv _
  subst hv
  intro _
  refine rhigh_test _ _ _ ?_
  intro _
  refine rlen_test _ _ _ ?_
  intro _; refine ⟨fun g => ?_, fun g => ?_⟩
  · have g : (!decide (Vd l W)) = true := g
    rw [Bool.not_eq_true'] at g
    have g := of_decide_eq_false g
    intro _
    exact ⟨(RQ_bad (fun e : Rm l W y h => g e.1)).symm, rfl⟩
  have g : (!decide (Vd l W)) = false := g
  rw [Bool.not_eq_false'] at g
  have hV := of_decide_eq_true g
  intro _; refine ⟨fun g => ?_, fun g => ?_⟩
  · have g : (!decide (0 ≤ y ∧ y ≤ 1000000000)) = true := g
    rw [Bool.not_eq_true'] at g
    have g := of_decide_eq_false g
    intro _
    exact ⟨(RQ_bad (fun e : Rm l W y h => g e.2.1)).symm, rfl⟩
  have g : (!decide (0 ≤ y ∧ y ≤ 1000000000)) = false := g
  rw [Bool.not_eq_false'] at g
  have hy := of_decide_eq_true g
  intro _; refine ⟨fun g => ?_, fun g => ?_⟩
  · have g : (!decide (0 ≤ h ∧ h ≤ 1000000)) = true := g
    rw [Bool.not_eq_true'] at g
    have g := of_decide_eq_false g
    intro _
    exact ⟨(RQ_bad (fun e : Rm l W y h => g e.2.2)).symm, rfl⟩
  have g : (!decide (0 ≤ h ∧ h ≤ 1000000)) = false := g
  rw [Bool.not_eq_false'] at g
  have hh := of_decide_eq_true g
  intro _
  refine call_pure [(0, some 0)] (rroom_ok l W y h hV ⟨hy.1, by omega⟩ hh) rfl rfl rfl ?_ ?_ ?_
  · (repeat' first | exact trivial | exact rfl | refine And.intro ?_ ?_)
  · (repeat' first | exact trivial | exact rfl | refine And.intro ?_ ?_)
  intro v hv _
  subst hv
  intro _
  exact ⟨(RQ_ok ⟨hV, hy, hh⟩).symm, rfl⟩
/-- where the floats of a side end -/
def bts (l : Rows) (s : Int) : Nat → Int
  | 0 => 0
  | k + 1 => if s = 0 ∨ sd l k = s then max (bts l s k) (fy l k + fh l k) else bts l s k
def BQ (l : Rows) (W s : Int) : V := if Vd l W ∧ 0 ≤ s ∧ s ≤ 2 then .tup [.int .i64 (bts l s l.length), .int .i64 0] else .tup [.int .i64 0, .int .i64 1]
theorem BQ_bad {l : Rows} {W s : Int} (e : ¬ (Vd l W ∧ 0 ≤ s ∧ s ≤ 2)) : BQ l W s = .tup [.int .i64 0, .int .i64 1] := if_neg e
theorem BQ_ok {l : Rows} {W s : Int} (e : Vd l W ∧ 0 ≤ s ∧ s ≤ 2) : BQ l W s = .tup [.int .i64 (bts l s l.length), .int .i64 0] := if_pos e
set_option maxHeartbeats 2000000 in
theorem Below_ok (l : Rows) (W s : Int) (hl : l.length ≤ 9223372036854775807) : SemF Try.prog 14 [.slc 0 5 0 l.length, .int .i64 W, .int .i64 s] ⟨1, 1, [(0, .arr [.int .i64, .int .i64, .int .i64, .int .i64, .int .i64] .rd (.recs l))]⟩ (fun v _ => v = BQ l W s ∧ nameless v = true) := by
  refine enter tt_ok Try.func14 (nt := 44) (cd := body Try.f14) rfl rfl rfl rfl ?_
  intro _
  refine call_pure [(0, some 0)] (valid_ok l W hl) rfl rfl rfl ?_ ?_ ?_
  · (repeat' first | exact trivial | exact rfl | refine And.intro ?_ ?_)
  · (repeat' first | exact trivial | exact rfl | refine And.intro ?_ ?_)
  intro v hv _
  subst hv
  intro _; refine ⟨fun g => ?_, fun g => ?_⟩
  · have g : (!decide (Vd l W)) = true := g
    rw [Bool.not_eq_true'] at g
    have g := of_decide_eq_false g
    intro _
    exact ⟨(BQ_bad (fun e => g e.1)).symm, rfl⟩
  have g : (!decide (Vd l W)) = false := g
  rw [Bool.not_eq_false'] at g
  have hV := of_decide_eq_true g
  intro _; refine ⟨fun g => ?_, fun g => ?_⟩
  · have g := of_decide_eq_true (show decide (s < 0) = true from g)
    intro _
    exact ⟨(BQ_bad (fun e => by have := e.2.1; omega)).symm, rfl⟩
  have s1 := of_decide_eq_false (show decide (s < 0) = false from g)
  intro _; refine ⟨fun g => ?_, fun g => ?_⟩
  · have g := of_decide_eq_true (show decide (s > 2) = true from g)
    intro _
    exact ⟨(BQ_bad (fun e => by have := e.2.2; omega)).symm, rfl⟩
  have s2 := of_decide_eq_false (show decide (s > 2) = false from g)
  have h2c := hV.1.1
  intro _
  refine loop2 tt_ok [25, 8] [] 1 (fun k : { k : Nat // k ≤ l.length } => [(25, .int .i64 (k : Nat)), (8, .int .i64 (bts l s k))]) (fun k => []) (fun k => l.length - k) ⟨0, by omega⟩ ?_
  intro _
  refine ⟨⟨th [] 1, rfl, rfl, rfl, rfl, rfl, rfl, ?_, ?_⟩, ?_⟩
  · (repeat' first | exact trivial | exact rfl | refine And.intro ?_ ?_)
  · (repeat' first | exact trivial | exact rfl | refine And.intro ?_ ?_)
  intro ⟨k, hk⟩
  have z : 0 + k = k := Nat.zero_add k
  intro _; refine ⟨fun g => ?_, fun g => ?_⟩
  rotate_left
  · have hkl := of_decide_eq_false (show decide ((k : Int) < (l.length : Int)) = false from g)
    obtain rfl : k = l.length := by omega
    intro _
    exact ⟨(BQ_ok ⟨hV, by omega, by omega⟩).symm, rfl⟩
  have hkl := of_decide_eq_true (show decide ((k : Int) < (l.length : Int)) = true from g)
  obtain ⟨f0, f1, f2, f3, f4⟩ := hV.2 k (by omega)
  have eF : IntKind.i64.wrap (fy l (0 + k) + fh l (0 + k)) = fy l k + fh l k := by rw [z]; exact wrapS _ ⟨by omega, by omega⟩
  have ek := (wrap_nat k (by omega)).symm
  intro _; refine ⟨show 0 ≤ (k : Int) ∧ (k : Int) < (l.length : Int) by omega, ?_⟩
  intro _; refine ⟨show 0 + (k : Int).toNat < l.length by omega, ?_⟩
  intro _; refine ⟨fun g => ?_, fun g => ?_⟩
  · have g : (s == 0) = true := g
    have g : s = 0 := by simpa using g
    intro _
    refine call_pure [] (bottom_ok (sd l (0 + k)) (fx l (0 + k)) (fy l (0 + k)) (fw l (0 + k)) (fh l (0 + k))) rfl rfl rfl ?_ ?_ ?_
    · (repeat' first | exact trivial | exact rfl | refine And.intro ?_ ?_)
    · (repeat' first | exact trivial | exact rfl | refine And.intro ?_ ?_)
    intro v hv _
    subst hv
    refine ⟨⟨k + 1, by omega⟩, by show l.length - (k + 1) < l.length - k; omega, th [] 1, rfl, rfl, rfl, rfl, rfl, rfl, ?_, ?_⟩
    · (repeat' first | exact trivial | exact rfl | refine And.intro ?_ ?_)
      · exact ek
      · show (if s = 0 ∨ sd l k = s then max (bts l s k) (fy l k + fh l k) else bts l s k) = max (bts l s k) (IntKind.i64.wrap (fy l (0 + k) + fh l (0 + k)))
        rw [if_pos (.inl g), eF]
    · (repeat' first | exact trivial | exact rfl | refine And.intro ?_ ?_)
  have g : (s == 0) = false := g
  have g0 : s ≠ 0 := by simpa using g
  intro _; refine ⟨fun g => ?_, fun g => ?_⟩
  · have g : (sd l (0 + k) == s) = true := g
    rw [z] at g
    have g : sd l k = s := by simpa using g
    intro _
    refine call_pure [] (bottom_ok (sd l (0 + k)) (fx l (0 + k)) (fy l (0 + k)) (fw l (0 + k)) (fh l (0 + k))) rfl rfl rfl ?_ ?_ ?_
    · (repeat' first | exact trivial | exact rfl | refine And.intro ?_ ?_)
    · (repeat' first | exact trivial | exact rfl | refine And.intro ?_ ?_)
    intro v hv _
    subst hv
    refine ⟨⟨k + 1, by omega⟩, by show l.length - (k + 1) < l.length - k; omega, th [] 1, rfl, rfl, rfl, rfl, rfl, rfl, ?_, ?_⟩
    · (repeat' first | exact trivial | exact rfl | refine And.intro ?_ ?_)
      · exact ek
      · show (if s = 0 ∨ sd l k = s then max (bts l s k) (fy l k + fh l k) else bts l s k) = max (bts l s k) (IntKind.i64.wrap (fy l (0 + k) + fh l (0 + k)))
        rw [if_pos (.inr g), eF]
    · (repeat' first | exact trivial | exact rfl | refine And.intro ?_ ?_)
  · have g : (sd l (0 + k) == s) = false := g
    rw [z] at g
    have g : sd l k ≠ s := by simpa using g
    refine ⟨⟨k + 1, by omega⟩, by show l.length - (k + 1) < l.length - k; omega, th [] 1, rfl, rfl, rfl, rfl, rfl, rfl, ?_, ?_⟩
    · (repeat' first | exact trivial | exact rfl | refine And.intro ?_ ?_)
      · exact ek
      · show (if s = 0 ∨ sd l k = s then max (bts l s k) (fy l k + fh l k) else bts l s k) = bts l s k
        rw [if_neg (fun q => q.elim g0 g)]
    · (repeat' first | exact trivial | exact rfl | refine And.intro ?_ ?_)
set_option maxHeartbeats 2000000 in
theorem RBelow_ok (l : Rows) (W s : Int) (hl : l.length ≤ 9223372036854775807) : SemF Try.prog 15 [.slc 0 5 0 l.length, .int .i64 W, .int .i64 s] ⟨1, 1, [(0, .arr [.int .i64, .int .i64, .int .i64, .int .i64, .int .i64] .rd (.recs l))]⟩ (fun v _ => v = BQ l W s ∧ nameless v = true) := by
  refine enter tt_ok Try.func15 (nt := 55) (cd := body Try.f15) rfl rfl rfl rfl ?_
  intro _
  refine call_pure [(0, some 0)] (rvalid_ok l W hl) rfl rfl rfl ?_ ?_ ?_
  · (repeat' first | exact trivial | exact rfl | refine And.intro ?_ ?_)
  · (repeat' first | exact trivial | exact rfl | refine And.intro ?_ ?_)
  intro v hv _
  subst hv
  intro _; refine ⟨fun g => ?_, fun g => ?_⟩
  · have g : (!decide (Vd l W)) = true := g
    rw [Bool.not_eq_true'] at g
    have g := of_decide_eq_false g
    intro _
    exact ⟨(BQ_bad (fun e => g e.1)).symm, rfl⟩
  have g : (!decide (Vd l W)) = false := g
  rw [Bool.not_eq_false'] at g
  have hV := of_decide_eq_true g
  intro _; refine ⟨fun g => ?_, fun g => ?_⟩
  · have g := of_decide_eq_true (show decide (s < 0) = true from g)
    intro _
    exact ⟨(BQ_bad (fun e => by have := e.2.1; omega)).symm, rfl⟩
  have s1 := of_decide_eq_false (show decide (s < 0) = false from g)
  intro _; refine ⟨fun g => ?_, fun g => ?_⟩
  · have g := of_decide_eq_true (show decide (s > 2) = true from g)
    intro _
    exact ⟨(BQ_bad (fun e => by have := e.2.2; omega)).symm, rfl⟩
  have s2 := of_decide_eq_false (show decide (s > 2) = false from g)
  have h2c := hV.1.1
  intro _
  refine loop2 tt_ok [10, 9] [] 1 (fun k : { k : Nat // k ≤ l.length } => [(10, .int .i64 (k : Nat)), (9, .int .i64 (bts l s k))]) (fun k => []) (fun k => l.length - k) ⟨0, by omega⟩ ?_
  intro _
  refine ⟨⟨th [] 1, rfl, rfl, rfl, rfl, rfl, rfl, ?_, ?_⟩, ?_⟩
  · (repeat' first | exact trivial | exact rfl | refine And.intro ?_ ?_)
  · (repeat' first | exact trivial | exact rfl | refine And.intro ?_ ?_)
  intro ⟨k, hk⟩
  have z : 0 + k = k := Nat.zero_add k
  intro _; refine ⟨fun g => ?_, fun g => ?_⟩
  rotate_left
  · have hkl := of_decide_eq_false (show decide ((k : Int) < (l.length : Int)) = false from g)
    obtain rfl : k = l.length := by omega
    intro _
    exact ⟨(BQ_ok ⟨hV, by omega, by omega⟩).symm, rfl⟩
  have hkl := of_decide_eq_true (show decide ((k : Int) < (l.length : Int)) = true from g)
  obtain ⟨f0, f1, f2, f3, f4⟩ := hV.2 k (by omega)
  have eF : IntKind.i64.wrap (fy l (0 + k) + fh l (0 + k)) = fy l k + fh l k := by rw [z]; exact wrapS _ ⟨by omega, by omega⟩
  have ek := (wrap_nat k (by omega)).symm
  have i1 : 0 ≤ (k : Int) ∧ (k : Int) < (l.length : Int) := by omega
  have i2 : 0 + (k : Int).toNat < l.length := by omega
  intro _; refine ⟨fun g => ?_, fun g => ?_⟩
  · have g : (s == 0) = true := g
    have g : s = 0 := by simpa using g
    intro _; refine ⟨i1, ?_⟩
    intro _; refine ⟨i2, ?_⟩
    intro _; refine ⟨i1, ?_⟩
    intro _; refine ⟨i2, ?_⟩
    intro _; refine ⟨by kernel_rfl, ?_⟩
    refine ⟨⟨k + 1, by omega⟩, by show l.length - (k + 1) < l.length - k; omega, th [] 1, rfl, rfl, rfl, rfl, rfl, rfl, ?_, ?_⟩
    · (repeat' first | exact trivial | exact rfl | refine And.intro ?_ ?_)
      · exact ek
      · show (if s = 0 ∨ sd l k = s then max (bts l s k) (fy l k + fh l k) else bts l s k) = max (bts l s k) (IntKind.i64.wrap (fy l (0 + k) + fh l (0 + k)))
        rw [if_pos (.inl g), eF]
    · (repeat' first | exact trivial | exact rfl | refine And.intro ?_ ?_)
  have g : (s == 0) = false := g
  have g0 : s ≠ 0 := by simpa using g
  intro _; refine ⟨i1, ?_⟩
  intro _; refine ⟨i2, ?_⟩
  intro _; refine ⟨fun g => ?_, fun g => ?_⟩
  · have g : (sd l (0 + k) == s) = true := g
    rw [z] at g
    have g : sd l k = s := by simpa using g
    intro _; refine ⟨i1, ?_⟩
    intro _; refine ⟨i2, ?_⟩
    intro _; refine ⟨i1, ?_⟩
    intro _; refine ⟨i2, ?_⟩
    intro _; refine ⟨by kernel_rfl, ?_⟩
    refine ⟨⟨k + 1, by omega⟩, by show l.length - (k + 1) < l.length - k; omega, th [] 1, rfl, rfl, rfl, rfl, rfl, rfl, ?_, ?_⟩
    · (repeat' first | exact trivial | exact rfl | refine And.intro ?_ ?_)
      · exact ek
      · show (if s = 0 ∨ sd l k = s then max (bts l s k) (fy l k + fh l k) else bts l s k) = max (bts l s k) (IntKind.i64.wrap (fy l (0 + k) + fh l (0 + k)))
        rw [if_pos (.inr g), eF]
    · (repeat' first | exact trivial | exact rfl | refine And.intro ?_ ?_)
  · have g : (sd l (0 + k) == s) = false := g
    rw [z] at g
    have g : sd l k ≠ s := by simpa using g
    refine ⟨⟨k + 1, by omega⟩, by show l.length - (k + 1) < l.length - k; omega, th [] 1, rfl, rfl, rfl, rfl, rfl, rfl, ?_, ?_⟩
    · (repeat' first | exact trivial | exact rfl | refine And.intro ?_ ?_)
      · exact ek
      · show (if s = 0 ∨ sd l k = s then max (bts l s k) (fy l k + fh l k) else bts l s k) = bts l s k
        rw [if_neg (fun q => q.elim g0 g)]
    · (repeat' first | exact trivial | exact rfl | refine And.intro ?_ ?_)
/-- the next height at which something ends -/
def nx (l : Rows) (a : Int) : Nat → Int
  | 0 => 2000000000
  | k + 1 => if fy l k + fh l k > a then min (nx l a k) (fy l k + fh l k) else nx l a k
theorem nx_le {l : Rows} {a : Int} : ∀ k i, i < k → fy l i + fh l i > a → nx l a k ≤ fy l i + fh l i
  | 0, i, hi, _ => by omega
  | k + 1, i, hi, h => by
    show (if fy l k + fh l k > a then min (nx l a k) (fy l k + fh l k) else nx l a k) ≤ _
    by_cases c : i = k
    · subst c; rw [if_pos h]; omega
    · have := nx_le (l := l) (a := a) k i (by omega) h
      split <;> omega
theorem nx_is {l : Rows} {a : Int} : ∀ k, nx l a k = 2000000000 ∨ ∃ i, i < k ∧ fy l i + fh l i > a ∧ nx l a k = fy l i + fh l i
  | 0 => .inl rfl
  | k + 1 => by
    have e : nx l a (k + 1) = if fy l k + fh l k > a then min (nx l a k) (fy l k + fh l k) else nx l a k := rfl
    rcases nx_is (l := l) (a := a) k with h | ⟨i, h1, h2, h3⟩
    · by_cases c : fy l k + fh l k > a
      · rw [if_pos c, h] at e
        by_cases d : fy l k + fh l k ≤ 2000000000
        · exact .inr ⟨k, by omega, c, by rw [e]; omega⟩
        · exact .inl (by rw [e]; omega)
      · rw [if_neg c] at e
        exact .inl (by rw [e]; exact h)
    · by_cases c : fy l k + fh l k > a
      · rw [if_pos c, h3] at e
        by_cases d : fy l k + fh l k ≤ fy l i + fh l i
        · exact .inr ⟨k, by omega, c, by rw [e]; omega⟩
        · exact .inr ⟨i, by omega, h2, by rw [e]; omega⟩
      · rw [if_neg c] at e
        exact .inr ⟨i, by omega, h2, by rw [e]; exact h3⟩
def Iv (l : Rows) (W y w h a : Int) : Prop := Cand l (mx l y l.length) a ∧ ∀ b, Cand l (mx l y l.length) b → b < a → ¬ FreeAt l W b w h
theorem Iv.next {l : Rows} {W y w h a : Int} (hF : ∀ i, i < l.length → Fl l i) (I : Iv l W y w h a) (hn : ¬ FreeAt l W a w h) : Iv l W y w h (nx l a l.length) ∧ a < nx l a l.length := by
  obtain ⟨i, i1, i2⟩ := free_no hn
  have hle := nx_le (l := l) (a := a) l.length i i1 i2
  obtain ⟨_, _, _, f3, f4⟩ := hF i i1
  have hg := cand_ge I.1
  rcases nx_is (l := l) (a := a) l.length with e | ⟨j, j1, j2, j3⟩
  · omega
  · refine ⟨⟨.inr ⟨j, j1, j3, by omega⟩, fun b hb hlt => ?_⟩, by omega⟩
    by_cases c : b < a
    · exact I.2 b hb c
    · by_cases d : b = a
      · subst d; exact hn
      · exfalso
        rcases hb with e | ⟨q, q1, q2, q3⟩
        · omega
        · have := nx_le (l := l) (a := a) l.length q q1 (by omega)
          omega
theorem nx_bd {l : Rows} {a : Int} (hF : ∀ i, i < l.length → Fl l i) (ha : 0 ≤ a) : 0 ≤ nx l a l.length ∧ nx l a l.length ≤ 2000000000 := by
  rcases nx_is (l := l) (a := a) l.length with e | ⟨j, j1, j2, j3⟩
  · omega
  · obtain ⟨_, _, _, f3, f4⟩ := hF j j1
    omega
def Nm (l : Rows) : Prop := ∀ k, k < l.length → l.getD k [] = [D.n (sd l k), D.n (fx l k), D.n (fy l k), D.n (fw l k), D.n (fh l k)]
theorem take_suc {l : Rows} {k : Nat} (h : k < l.length) : l.take (k + 1) = l.take k ++ [l.getD k []] := by
  rw [List.take_succ_eq_append_getElem h, List.getD_eq_getElem?_getD, List.getElem?_eq_getElem h]; rfl
set_option maxHeartbeats 8000000 in
theorem rplace_ok (l : Rows) (W s y w h : Int) (hl : l.length ≤ 9223372036854775807) (hN : Nm l) : SemF Try.prog 17 [.slc 0 5 0 l.length, .int .i64 W, .int .i64 s, .int .i64 y, .int .i64 w, .int .i64 h] ⟨1, 1, [(0, .arr [.int .i64, .int .i64, .int .i64, .int .i64, .int .i64] .rd (.recs l))]⟩ (fun v h' => v = .tup [.grw 1 (pl l W s y w h).1.length, .int .i64 (pl l W s y w h).2] ∧ h' = ⟨2, 1, [(1, .arr [.int .i64, .int .i64, .int .i64, .int .i64, .int .i64] .grow (.recs (pl l W s y w h).1))]⟩) := by
  refine SemF.ret ?_
  refine enter tt_ok Try.func17 (nt := 162) (cd := body Try.f17) rfl rfl rfl rfl ?_
  intro _
  refine call_pure [(0, some 0)] (rvalid_ok l W hl) rfl rfl rfl ?_ ?_ ?_
  · (repeat' first | exact trivial | exact rfl | refine And.intro ?_ ?_)
  · (repeat' first | exact trivial | exact rfl | refine And.intro ?_ ?_)
  intro v hv _
  subst hv
  intro _
  refine rhigh_test _ _ _ ?_
  intro _
  refine rlen_test _ _ _ ?_
  intro _
  refine rlen_test _ _ _ ?_
  intro _; refine ⟨fun g => ?_, fun g => ?_⟩
  · have q : (!decide (Vd l W)) = true := g
    rw [Bool.not_eq_true'] at q
    have q := of_decide_eq_false q
    have eP := pl_bad (fun g : Pv l W s y w h => q g.1)
    intro _
    refine ⟨[(1, none)], .tup [.grw 1 (pl l W s y w h).1.length, .int .i64 (pl l W s y w h).2], ⟨2, 1, [(1, .arr [.int .i64, .int .i64, .int .i64, .int .i64, .int .i64] .grow (.recs (pl l W s y w h).1))]⟩, rfl, rfl, rfl, rfl, ?_, ?_, ⟨rfl, rfl⟩⟩
    · rw [eP]; (repeat' first | exact trivial | exact rfl | refine And.intro ?_ ?_)
    · rw [eP]; (repeat' first | exact trivial | exact rfl | refine And.intro ?_ ?_)
  have g : (!decide (Vd l W)) = false := g
  rw [Bool.not_eq_false'] at g
  have hV := of_decide_eq_true g
  intro _; refine ⟨fun g => ?_, fun g => ?_⟩
  · have q : (!decide (0 ≤ y ∧ y ≤ 1000000000)) = true := g
    rw [Bool.not_eq_true'] at q
    have q := of_decide_eq_false q
    have eP := pl_bad (fun g : Pv l W s y w h => q g.2.2.1)
    intro _
    refine ⟨[(1, none)], .tup [.grw 1 (pl l W s y w h).1.length, .int .i64 (pl l W s y w h).2], ⟨2, 1, [(1, .arr [.int .i64, .int .i64, .int .i64, .int .i64, .int .i64] .grow (.recs (pl l W s y w h).1))]⟩, rfl, rfl, rfl, rfl, ?_, ?_, ⟨rfl, rfl⟩⟩
    · rw [eP]; (repeat' first | exact trivial | exact rfl | refine And.intro ?_ ?_)
    · rw [eP]; (repeat' first | exact trivial | exact rfl | refine And.intro ?_ ?_)
  have g : (!decide (0 ≤ y ∧ y ≤ 1000000000)) = false := g
  rw [Bool.not_eq_false'] at g
  have hy := of_decide_eq_true g
  intro _; refine ⟨fun g => ?_, fun g => ?_⟩
  · have q : (!decide (0 ≤ w ∧ w ≤ 1000000)) = true := g
    rw [Bool.not_eq_true'] at q
    have q := of_decide_eq_false q
    have eP := pl_bad (fun g : Pv l W s y w h => q g.2.2.2.1)
    intro _
    refine ⟨[(1, none)], .tup [.grw 1 (pl l W s y w h).1.length, .int .i64 (pl l W s y w h).2], ⟨2, 1, [(1, .arr [.int .i64, .int .i64, .int .i64, .int .i64, .int .i64] .grow (.recs (pl l W s y w h).1))]⟩, rfl, rfl, rfl, rfl, ?_, ?_, ⟨rfl, rfl⟩⟩
    · rw [eP]; (repeat' first | exact trivial | exact rfl | refine And.intro ?_ ?_)
    · rw [eP]; (repeat' first | exact trivial | exact rfl | refine And.intro ?_ ?_)
  have g : (!decide (0 ≤ w ∧ w ≤ 1000000)) = false := g
  rw [Bool.not_eq_false'] at g
  have hw := of_decide_eq_true g
  intro _; refine ⟨fun g => ?_, fun g => ?_⟩
  · have q : (!decide (0 ≤ h ∧ h ≤ 1000000)) = true := g
    rw [Bool.not_eq_true'] at q
    have q := of_decide_eq_false q
    have eP := pl_bad (fun g : Pv l W s y w h => q g.2.2.2.2)
    intro _
    refine ⟨[(1, none)], .tup [.grw 1 (pl l W s y w h).1.length, .int .i64 (pl l W s y w h).2], ⟨2, 1, [(1, .arr [.int .i64, .int .i64, .int .i64, .int .i64, .int .i64] .grow (.recs (pl l W s y w h).1))]⟩, rfl, rfl, rfl, rfl, ?_, ?_, ⟨rfl, rfl⟩⟩
    · rw [eP]; (repeat' first | exact trivial | exact rfl | refine And.intro ?_ ?_)
    · rw [eP]; (repeat' first | exact trivial | exact rfl | refine And.intro ?_ ?_)
  have g : (!decide (0 ≤ h ∧ h ≤ 1000000)) = false := g
  rw [Bool.not_eq_false'] at g
  have hh := of_decide_eq_true g
  intro _; refine ⟨fun g => ?_, fun g => ?_⟩
  · have q := of_decide_eq_true (show decide (s < 1) = true from g)
    have eP := pl_bad (fun g : Pv l W s y w h => by have := g.2.1; omega)
    intro _
    refine ⟨[(1, none)], .tup [.grw 1 (pl l W s y w h).1.length, .int .i64 (pl l W s y w h).2], ⟨2, 1, [(1, .arr [.int .i64, .int .i64, .int .i64, .int .i64, .int .i64] .grow (.recs (pl l W s y w h).1))]⟩, rfl, rfl, rfl, rfl, ?_, ?_, ⟨rfl, rfl⟩⟩
    · rw [eP]; (repeat' first | exact trivial | exact rfl | refine And.intro ?_ ?_)
    · rw [eP]; (repeat' first | exact trivial | exact rfl | refine And.intro ?_ ?_)
  have s1 := of_decide_eq_false (show decide (s < 1) = false from g)
  intro _; refine ⟨fun g => ?_, fun g => ?_⟩
  · have q := of_decide_eq_true (show decide (s > 2) = true from g)
    have eP := pl_bad (fun g : Pv l W s y w h => by have := g.2.1; omega)
    intro _
    refine ⟨[(1, none)], .tup [.grw 1 (pl l W s y w h).1.length, .int .i64 (pl l W s y w h).2], ⟨2, 1, [(1, .arr [.int .i64, .int .i64, .int .i64, .int .i64, .int .i64] .grow (.recs (pl l W s y w h).1))]⟩, rfl, rfl, rfl, rfl, ?_, ?_, ⟨rfl, rfl⟩⟩
    · rw [eP]; (repeat' first | exact trivial | exact rfl | refine And.intro ?_ ?_)
    · rw [eP]; (repeat' first | exact trivial | exact rfl | refine And.intro ?_ ?_)
  have s2 := of_decide_eq_false (show decide (s > 2) = false from g)
  have hPv : Pv l W s y w h := ⟨hV, by omega, hy, hw, hh⟩
  have h2c := hV.1.1
  intro _; refine ⟨fun g => ?_, fun g => ?_⟩
  · have g := of_decide_eq_true (show decide ((l.length : Int) ≥ 200) = true from g)
    have eP := pl_full hPv (by omega)
    intro _
    refine ⟨[(1, none)], .tup [.grw 1 (pl l W s y w h).1.length, .int .i64 (pl l W s y w h).2], ⟨2, 1, [(1, .arr [.int .i64, .int .i64, .int .i64, .int .i64, .int .i64] .grow (.recs (pl l W s y w h).1))]⟩, rfl, rfl, rfl, rfl, ?_, ?_, ⟨rfl, rfl⟩⟩
    · rw [eP]; (repeat' first | exact trivial | exact rfl | refine And.intro ?_ ?_)
    · rw [eP]; (repeat' first | exact trivial | exact rfl | refine And.intro ?_ ?_)
  have g := of_decide_eq_false (show decide ((l.length : Int) ≥ 200) = false from g)
  have h200 : ¬ l.length = 200 := by omega
  intro _
  refine loop2 tt_ok [19, 18] [] 1 (fun k : { k : Nat // k ≤ l.length } => [(19, .int .i64 (k.1 : Nat)), (18, .int .i64 (mx l y k.1))]) (fun _ => []) (fun k => l.length - k.1) ⟨0, by omega⟩ ?_
  intro _
  refine ⟨⟨th [] 1, rfl, rfl, rfl, rfl, rfl, rfl, ?_, ?_⟩, ?_⟩
  · (repeat' first | exact trivial | exact rfl | refine And.intro ?_ ?_)
  · (repeat' first | exact trivial | exact rfl | refine And.intro ?_ ?_)
  intro ⟨k, hk⟩
  have z : 0 + k = k := Nat.zero_add k
  intro _; refine ⟨fun g => ?_, fun g => ?_⟩
  · have hkl := of_decide_eq_true (show decide ((k : Int) < (l.length : Int)) = true from g)
    intro _; refine ⟨show 0 ≤ (k : Int) ∧ (k : Int) < (l.length : Int) by omega, ?_⟩
    intro _; refine ⟨show 0 + (k : Int).toNat < l.length by omega, ?_⟩
    refine ⟨⟨k + 1, by omega⟩, by show l.length - (k + 1) < l.length - k; omega, th [] 1, rfl, rfl, rfl, rfl, rfl, rfl, ?_, ?_⟩
    · (repeat' first | exact trivial | exact rfl | refine And.intro ?_ ?_)
      · exact (wrap_nat k (by omega)).symm
      · show max (mx l y k) (fy l k) = max (mx l y k) (fy l (0 + k))
        rw [z]
    · (repeat' first | exact trivial | exact rfl | refine And.intro ?_ ?_)
  have hkl := of_decide_eq_false (show decide ((k : Int) < (l.length : Int)) = false from g)
  obtain rfl : k = l.length := by omega
  have hmb := mx_bd hy l.length (fun i hi => (hV.2 i hi).2.2.2.2)
  intro _
  refine call_pure [(0, some 0)] (free_ok l W (mx l y l.length) w h hV (by omega) hh) rfl rfl rfl ?_ ?_ ?_
  · (repeat' first | exact trivial | exact rfl | refine And.intro ?_ ?_)
  · (repeat' first | exact trivial | exact rfl | refine And.intro ?_ ?_)
  intro v hv _
  subst hv
  intro _
  refine loop2 tt_ok [20, 21] [] 1 (fun a : { a : Int // Iv l W y w h a } => [(20, .int .i64 a.1), (21, .test (decide (FreeAt l W a.1 w h)))]) (fun _ => []) (fun a => (2000000000 - a.1).toNat) ⟨mx l y l.length, .inl rfl, fun b hb hlt => by have := cand_ge hb; omega⟩ ?_
  intro _
  refine ⟨⟨th [] 1, rfl, rfl, rfl, rfl, rfl, rfl, ?_, ?_⟩, ?_⟩
  · (repeat' first | exact trivial | exact rfl | refine And.intro ?_ ?_)
  · (repeat' first | exact trivial | exact rfl | refine And.intro ?_ ?_)
  intro ⟨a, Ia⟩
  have hab := cand_bd hV.2 hy Ia.1
  intro _; refine ⟨fun g => ?_, fun g => ?_⟩
  · have g : (!decide (FreeAt l W a w h)) = true := g
    rw [Bool.not_eq_true'] at g
    have hnf := of_decide_eq_false g
    obtain ⟨In, hlt⟩ := Ia.next hV.2 hnf
    have hnb := nx_bd hV.2 hab.1
    intro _
    refine loop2 tt_ok [23, 22] [] 1 (fun k : { k : Nat // k ≤ l.length } => [(23, .int .i64 (k.1 : Nat)), (22, .int .i64 (nx l a k.1))]) (fun _ => []) (fun k => l.length - k.1) ⟨0, by omega⟩ ?_
    intro _
    refine ⟨⟨th [] 1, rfl, rfl, rfl, rfl, rfl, rfl, ?_, ?_⟩, ?_⟩
    · (repeat' first | exact trivial | exact rfl | refine And.intro ?_ ?_)
    · (repeat' first | exact trivial | exact rfl | refine And.intro ?_ ?_)
    intro ⟨k, hk⟩
    have z : 0 + k = k := Nat.zero_add k
    intro _; refine ⟨fun g => ?_, fun g => ?_⟩
    rotate_left
    · have hkl := of_decide_eq_false (show decide ((k : Int) < (l.length : Int)) = false from g)
      obtain rfl : k = l.length := by omega
      intro _
      refine call_pure [(0, some 0)] (free_ok l W (nx l a l.length) w h hV hnb hh) rfl rfl rfl ?_ ?_ ?_
      · (repeat' first | exact trivial | exact rfl | refine And.intro ?_ ?_)
      · (repeat' first | exact trivial | exact rfl | refine And.intro ?_ ?_)
      intro v hv _
      subst hv
      refine ⟨⟨nx l a l.length, In⟩, by show (2000000000 - nx l a l.length).toNat < (2000000000 - a).toNat; omega, th [] 1, rfl, rfl, rfl, rfl, rfl, rfl, ?_, ?_⟩
      · (repeat' first | exact trivial | exact rfl | refine And.intro ?_ ?_)
      · (repeat' first | exact trivial | exact rfl | refine And.intro ?_ ?_)
    have hkl := of_decide_eq_true (show decide ((k : Int) < (l.length : Int)) = true from g)
    obtain ⟨f0, f1, f2, f3, f4⟩ := hV.2 k (by omega)
    have i1 : 0 ≤ (k : Int) ∧ (k : Int) < (l.length : Int) := by omega
    have i2 : 0 + (k : Int).toNat < l.length := by omega
    have eF : IntKind.i64.wrap (fy l (0 + k) + fh l (0 + k)) = fy l k + fh l k := by rw [z]; exact wrapS _ ⟨by omega, by omega⟩
    have ek := (wrap_nat k (by omega)).symm
    intro _; refine ⟨i1, ?_⟩
    intro _; refine ⟨i2, ?_⟩
    intro _; refine ⟨i1, ?_⟩
    intro _; refine ⟨i2, ?_⟩
    intro _; refine ⟨by kernel_rfl, ?_⟩
    intro _; refine ⟨fun g => ?_, fun g => ?_⟩
    · have g := of_decide_eq_true (show decide (IntKind.i64.wrap (fy l (0 + k) + fh l (0 + k)) > a) = true from g)
      rw [eF] at g
      intro _; refine ⟨i1, ?_⟩
      intro _; refine ⟨i2, ?_⟩
      intro _; refine ⟨i1, ?_⟩
      intro _; refine ⟨i2, ?_⟩
      intro _; refine ⟨by kernel_rfl, ?_⟩
      refine ⟨⟨k + 1, by omega⟩, by show l.length - (k + 1) < l.length - k; omega, th [] 1, rfl, rfl, rfl, rfl, rfl, rfl, ?_, ?_⟩
      · (repeat' first | exact trivial | exact rfl | refine And.intro ?_ ?_)
        · exact ek
        · show (if fy l k + fh l k > a then min (nx l a k) (fy l k + fh l k) else nx l a k) = min (nx l a k) (IntKind.i64.wrap (fy l (0 + k) + fh l (0 + k)))
          rw [if_pos g, eF]
      · (repeat' first | exact trivial | exact rfl | refine And.intro ?_ ?_)
    · have g := of_decide_eq_false (show decide (IntKind.i64.wrap (fy l (0 + k) + fh l (0 + k)) > a) = false from g)
      rw [eF] at g
      refine ⟨⟨k + 1, by omega⟩, by show l.length - (k + 1) < l.length - k; omega, th [] 1, rfl, rfl, rfl, rfl, rfl, rfl, ?_, ?_⟩
      · (repeat' first | exact trivial | exact rfl | refine And.intro ?_ ?_)
        · exact ek
        · show (if fy l k + fh l k > a then min (nx l a k) (fy l k + fh l k) else nx l a k) = nx l a k
          rw [if_neg g]
      · (repeat' first | exact trivial | exact rfl | refine And.intro ?_ ?_)
  have g : (!decide (FreeAt l W a w h)) = false := g
  rw [Bool.not_eq_false'] at g
  have hfr := of_decide_eq_true g
  have hPA : PA l W y w h a := ⟨⟨Ia.1, hfr⟩, Ia.2⟩
  intro _; refine ⟨fun g => ?_, fun g => ?_⟩
  · have g := of_decide_eq_true (show decide (a > 1000000000) = true from g)
    have eP := pl_far hPv h200 hPA g
    intro _
    refine ⟨[(1, none)], .tup [.grw 1 (pl l W s y w h).1.length, .int .i64 (pl l W s y w h).2], ⟨2, 1, [(1, .arr [.int .i64, .int .i64, .int .i64, .int .i64, .int .i64] .grow (.recs (pl l W s y w h).1))]⟩, rfl, rfl, rfl, rfl, ?_, ?_, ⟨rfl, rfl⟩⟩
    · rw [eP]; (repeat' first | exact trivial | exact rfl | refine And.intro ?_ ?_)
    · rw [eP]; (repeat' first | exact trivial | exact rfl | refine And.intro ?_ ?_)
  have g := of_decide_eq_false (show decide (a > 1000000000) = false from g)
  have eP := pl_ok hPv h200 hPA g
  intro _
  refine call_pure [(0, some 0)] (rroom_ok l W a h hV (by omega) hh) rfl rfl rfl ?_ ?_ ?_
  · (repeat' first | exact trivial | exact rfl | refine And.intro ?_ ?_)
  · (repeat' first | exact trivial | exact rfl | refine And.intro ?_ ?_)
  intro v hv _
  subst hv
  have bl := lo_bd (y := a) (h := h) hV l.length (Nat.le_refl _)
  have bh := hi_bd (y := a) (h := h) hV l.length (Nat.le_refl _)
  intro _; refine ⟨fun g => ?_, fun g => ?_⟩
  · have g : (s == 2) = true := g
    have g : s = 2 := by simpa using g
    have hrow : prow l W s a w h = [D.n s, D.n (max 0 (IntKind.i64.wrap (max (Hi l W a h l.length) (Lo l a h l.length) - w))), D.n a, D.n w, D.n h] := by
      unfold prow px; rw [if_pos g, wrapS _ ⟨by omega, by omega⟩, Int.max_comm 0]
    intro _
    refine loop2 tt_ok [27, 26] [2] 3 (fun k : { k : Nat // k ≤ l.length } => [(27, .int .i64 (k.1 : Nat)), (26, .grw 2 (l.take k.1).length)]) (fun k => [(2, .arr [.int .i64, .int .i64, .int .i64, .int .i64, .int .i64] .grow (.recs (l.take k.1)))]) (fun k => l.length - k.1) ⟨0, by omega⟩ ?_
    intro _
    refine ⟨⟨th [(2, none)] 3, rfl, rfl, rfl, rfl, rfl, rfl, ?_, ?_⟩, ?_⟩
    · (repeat' first | exact trivial | exact rfl | refine And.intro ?_ ?_)
    · (repeat' first | exact trivial | exact rfl | refine And.intro ?_ ?_)
    intro ⟨k, hk⟩
    have z : 0 + k = k := Nat.zero_add k
    have hkl2 : (l.take k).length = k := by rw [List.length_take]; omega
    intro _; refine ⟨fun g => ?_, fun g => ?_⟩
    rotate_left
    · have hkl := of_decide_eq_false (show decide ((k : Int) < (l.length : Int)) = false from g)
      obtain rfl : k = l.length := by omega
      have eT : l.take l.length = l := List.take_length
      intro _; refine ⟨rfl, ?_⟩
      intro _; refine ⟨fun g3 => by simp at g3, fun _ => ?_⟩
      refine ⟨⟨rfl, by show (l.take l.length).length + 1 ≤ _; omega, by show ((l.take l.length).length + 1) * 40 ≤ _; omega⟩, ?_⟩
      intro _
      refine ⟨[(1, some 4)], .tup [.grw 1 (pl l W s y w h).1.length, .int .i64 (pl l W s y w h).2], ⟨2, 1, [(1, .arr [.int .i64, .int .i64, .int .i64, .int .i64, .int .i64] .grow (.recs (pl l W s y w h).1))]⟩, rfl, rfl, rfl, rfl, ?_, ?_, ⟨rfl, rfl⟩⟩
      · rw [eP]; (repeat' first | exact trivial | exact rfl | refine And.intro ?_ ?_)
        show (l ++ [prow l W s a w h]).length = (l.take l.length).length + 1
        rw [List.length_append, hkl2]; rfl
      · rw [eP]; (repeat' first | exact trivial | exact rfl | refine And.intro ?_ ?_)
        show l ++ [prow l W s a w h] = l.take l.length ++ _
        rw [eT, hrow]
    have hkl := of_decide_eq_true (show decide ((k : Int) < (l.length : Int)) = true from g)
    intro _; refine ⟨show 0 ≤ (k : Int) ∧ (k : Int) < (l.length : Int) by omega, ?_⟩
    intro _; refine ⟨show 0 + (k : Int).toNat < l.length by omega, ?_⟩
    intro _; refine ⟨rfl, ?_⟩
    intro _; refine ⟨fun g3 => by simp at g3, fun _ => ?_⟩
    refine ⟨⟨rfl, by show (l.take k).length + 1 ≤ _; omega, by show ((l.take k).length + 1) * 40 ≤ _; omega⟩, ?_⟩
    refine ⟨⟨k + 1, by omega⟩, by show l.length - (k + 1) < l.length - k; omega, th [(2, some 4)] 3, rfl, rfl, rfl, rfl, rfl, rfl, ?_, ?_⟩
    · (repeat' first | exact trivial | exact rfl | refine And.intro ?_ ?_)
      · exact (wrap_nat k (by omega)).symm
      · show (l.take (k + 1)).length = (l.take k).length + 1
        rw [List.length_take, List.length_take]; omega
    · (repeat' first | exact trivial | exact rfl | refine And.intro ?_ ?_)
      show l.take (k + 1) = l.take k ++ [[D.n (sd l (0 + k)), D.n (fx l (0 + k)), D.n (fy l (0 + k)), D.n (fw l (0 + k)), D.n (fh l (0 + k))]]
      rw [z, take_suc (by omega), hN k (by omega)]
  · have g : (s == 2) = false := g
    have g : s ≠ 2 := by simpa using g
    have hrow : prow l W s a w h = [D.n s, D.n (Lo l a h l.length), D.n a, D.n w, D.n h] := by
      unfold prow px; rw [if_neg g]
    intro _
    refine loop2 tt_ok [27, 26] [2] 3 (fun k : { k : Nat // k ≤ l.length } => [(27, .int .i64 (k.1 : Nat)), (26, .grw 2 (l.take k.1).length)]) (fun k => [(2, .arr [.int .i64, .int .i64, .int .i64, .int .i64, .int .i64] .grow (.recs (l.take k.1)))]) (fun k => l.length - k.1) ⟨0, by omega⟩ ?_
    intro _
    refine ⟨⟨th [(2, none)] 3, rfl, rfl, rfl, rfl, rfl, rfl, ?_, ?_⟩, ?_⟩
    · (repeat' first | exact trivial | exact rfl | refine And.intro ?_ ?_)
    · (repeat' first | exact trivial | exact rfl | refine And.intro ?_ ?_)
    intro ⟨k, hk⟩
    have z : 0 + k = k := Nat.zero_add k
    have hkl2 : (l.take k).length = k := by rw [List.length_take]; omega
    intro _; refine ⟨fun g => ?_, fun g => ?_⟩
    rotate_left
    · have hkl := of_decide_eq_false (show decide ((k : Int) < (l.length : Int)) = false from g)
      obtain rfl : k = l.length := by omega
      have eT : l.take l.length = l := List.take_length
      intro _; refine ⟨rfl, ?_⟩
      intro _; refine ⟨fun g3 => by simp at g3, fun _ => ?_⟩
      refine ⟨⟨rfl, by show (l.take l.length).length + 1 ≤ _; omega, by show ((l.take l.length).length + 1) * 40 ≤ _; omega⟩, ?_⟩
      intro _
      refine ⟨[(1, some 4)], .tup [.grw 1 (pl l W s y w h).1.length, .int .i64 (pl l W s y w h).2], ⟨2, 1, [(1, .arr [.int .i64, .int .i64, .int .i64, .int .i64, .int .i64] .grow (.recs (pl l W s y w h).1))]⟩, rfl, rfl, rfl, rfl, ?_, ?_, ⟨rfl, rfl⟩⟩
      · rw [eP]; (repeat' first | exact trivial | exact rfl | refine And.intro ?_ ?_)
        show (l ++ [prow l W s a w h]).length = (l.take l.length).length + 1
        rw [List.length_append, hkl2]; rfl
      · rw [eP]; (repeat' first | exact trivial | exact rfl | refine And.intro ?_ ?_)
        show l ++ [prow l W s a w h] = l.take l.length ++ _
        rw [eT, hrow]
    have hkl := of_decide_eq_true (show decide ((k : Int) < (l.length : Int)) = true from g)
    intro _; refine ⟨show 0 ≤ (k : Int) ∧ (k : Int) < (l.length : Int) by omega, ?_⟩
    intro _; refine ⟨show 0 + (k : Int).toNat < l.length by omega, ?_⟩
    intro _; refine ⟨rfl, ?_⟩
    intro _; refine ⟨fun g3 => by simp at g3, fun _ => ?_⟩
    refine ⟨⟨rfl, by show (l.take k).length + 1 ≤ _; omega, by show ((l.take k).length + 1) * 40 ≤ _; omega⟩, ?_⟩
    refine ⟨⟨k + 1, by omega⟩, by show l.length - (k + 1) < l.length - k; omega, th [(2, some 4)] 3, rfl, rfl, rfl, rfl, rfl, rfl, ?_, ?_⟩
    · (repeat' first | exact trivial | exact rfl | refine And.intro ?_ ?_)
      · exact (wrap_nat k (by omega)).symm
      · show (l.take (k + 1)).length = (l.take k).length + 1
        rw [List.length_take, List.length_take]; omega
    · (repeat' first | exact trivial | exact rfl | refine And.intro ?_ ?_)
      show l.take (k + 1) = l.take k ++ [[D.n (sd l (0 + k)), D.n (fx l (0 + k)), D.n (fy l (0 + k)), D.n (fw l (0 + k)), D.n (fh l (0 + k))]]
      rw [z, take_suc (by omega), hN k (by omega)]
theorem RQ_form (l : Rows) (W y h : Int) : ∃ a b e, RQ l W y h = .tup [.agg [.int .i64 a, .int .i64 b], .int .i64 e] := by
  by_cases c : Rm l W y h
  · exact ⟨_, _, _, RQ_ok c⟩
  · exact ⟨_, _, _, RQ_bad c⟩
theorem BQ_form (l : Rows) (W s : Int) : ∃ a e, BQ l W s = .tup [.int .i64 a, .int .i64 e] := by
  by_cases c : Vd l W ∧ 0 ≤ s ∧ s ≤ 2
  · exact ⟨_, _, BQ_ok c⟩
  · exact ⟨_, _, BQ_bad c⟩
theorem pl_len (l : Rows) (W s y w h : Int) : (pl l W s y w h).1.length ≤ 201 := by
  by_cases c : Pv l W s y w h
  · by_cases d : l.length = 200
    · rw [pl_full c d]; exact Nat.zero_le _
    · by_cases e : pa l W y w h > 1000000000
      · rw [pl_far c d (pa_spec l W y w h) e]; exact Nat.zero_le _
      · rw [pl_ok c d (pa_spec l W y w h) e, List.length_append]
        have := c.1.1.1
        show l.length + 1 ≤ 201
        omega
  · rw [pl_bad c]; exact Nat.zero_le _
theorem Nmw {l : Rows} (h : ∀ n ∈ l, rowWf [.int .i64, .int .i64, .int .i64, .int .i64, .int .i64] n) : Nm l := by
  intro i hi
  have hm : l.getD i [] ∈ l := by
    rw [List.getD_eq_getElem?_getD, List.getElem?_eq_getElem hi]; exact List.getElem_mem hi
  obtain ⟨hlen, hc⟩ := h _ hm
  obtain ⟨a, ea, _⟩ := hc 0 (.int .i64) rfl
  obtain ⟨b, eb, _⟩ := hc 1 (.int .i64) rfl
  obtain ⟨c, ec, _⟩ := hc 2 (.int .i64) rfl
  obtain ⟨d, ed, _⟩ := hc 3 (.int .i64) rfl
  obtain ⟨e, ee, _⟩ := hc 4 (.int .i64) rfl
  unfold sd fx fy fw fh
  rw [ea, eb, ec, ed, ee]
  revert hlen ea eb ec ed ee
  generalize l.getD i [] = r
  intro hlen ea eb ec ed ee
  match r, hlen with
  | [p, q, s, t, u], _ =>
    simp at ea eb ec ed ee
    subst ea; subst eb; subst ec; subst ed; subst ee
    rfl
set_option maxHeartbeats 4000000 in
theorem law3 (l : Rows) (W s y w h : Int) (hl : List.length l ≤ 9223372036854775807) (hN : Nm l) : SemF Try.prog 3 [.slc 0 5 0 l.length, .int .i64 W, .int .i64 s, .int .i64 y, .int .i64 w, .int .i64 h] ⟨1, 1, [(0, .arr [.int .i64, .int .i64, .int .i64, .int .i64, .int .i64] .ro (.recs l))]⟩ (fun v _ => IsTrue v) := by
  refine enter tt_ok Try.func3 (nt := 124) (cd := body Try.f3) rfl rfl rfl rfl ?_
  intro _
  refine head_ok rfl Try.func9 (cd := body Try.f9) rfl ?_
  obtain ⟨ra, rb, re, eR⟩ := RQ_form l W y h
  obtain ⟨ba, be, eB⟩ := BQ_form l W s
  have hpl := pl_len l W s y w h
  intro _; refine ⟨fun g => ?_, fun g => ?_⟩
  · intro _; refine ⟨fun g => ?_, fun g => ?_⟩
    · intro _
      show true = true
      rfl
    intro _
    refine call_pure [(0, some 0)] (Room_ok l W y h hl) rfl rfl rfl ?_ ?_ ?_
    · (repeat' first | exact trivial | exact rfl | refine And.intro ?_ ?_)
    · (repeat' first | exact trivial | exact rfl | refine And.intro ?_ ?_)
    intro v hv _
    rw [eR] at hv; subst hv
    intro _
    refine call_pure [(0, some 0)] (RRoom_ok l W y h hl) rfl rfl rfl ?_ ?_ ?_
    · (repeat' first | exact trivial | exact rfl | refine And.intro ?_ ?_)
    · (repeat' first | exact trivial | exact rfl | refine And.intro ?_ ?_)
    intro v hv _
    rw [eR] at hv; subst hv
    intro _
    refine call_pure [(0, some 0)] (valid_ok l W hl) rfl rfl rfl ?_ ?_ ?_
    · (repeat' first | exact trivial | exact rfl | refine And.intro ?_ ?_)
    · (repeat' first | exact trivial | exact rfl | refine And.intro ?_ ?_)
    intro v hv _
    subst hv
    intro _
    refine call_pure [(0, some 0)] (rvalid_ok l W hl) rfl rfl rfl ?_ ?_ ?_
    · (repeat' first | exact trivial | exact rfl | refine And.intro ?_ ?_)
    · (repeat' first | exact trivial | exact rfl | refine And.intro ?_ ?_)
    intro v hv _
    subst hv
    intro _; refine ⟨fun g => ?_, fun g => ?_⟩
    rotate_left
    · exfalso
      have g : (decide (Vd l W) == decide (Vd l W)) = false := g
      simp at g
    intro _; refine ⟨fun g => ?_, fun g => ?_⟩
    rotate_left
    · exfalso
      have g : (ra == ra && rb == rb) = false := g
      simp at g
    intro _
    refine call_pure [(0, some 0)] (Below_ok l W s hl) rfl rfl rfl ?_ ?_ ?_
    · (repeat' first | exact trivial | exact rfl | refine And.intro ?_ ?_)
    · (repeat' first | exact trivial | exact rfl | refine And.intro ?_ ?_)
    intro v hv _
    rw [eB] at hv; subst hv
    intro _
    refine call_pure [(0, some 0)] (RBelow_ok l W s hl) rfl rfl rfl ?_ ?_ ?_
    · (repeat' first | exact trivial | exact rfl | refine And.intro ?_ ?_)
    · (repeat' first | exact trivial | exact rfl | refine And.intro ?_ ?_)
    intro v hv _
    rw [eB] at hv; subst hv
    intro _; refine ⟨fun g => ?_, fun g => ?_⟩
    rotate_left
    · exfalso
      have g : (re == re) = false := g
      simp at g
    intro _; refine ⟨fun g => ?_, fun g => ?_⟩
    rotate_left
    · exfalso
      have g : (ba == ba) = false := g
      simp at g
    intro _
    refine call_new [(0, some 0)] (place_ok l W s y w h hl) rfl rfl rfl rfl ?_ ?_ ?_
    · (repeat' first | exact trivial | exact rfl | refine And.intro ?_ ?_)
    · (repeat' first | exact trivial | exact rfl | refine And.intro ?_ ?_)
    intro v h' hv
    obtain ⟨rfl, rfl⟩ := hv
    refine ⟨[(3, some 1)], 4, [(3, .arr [.int .i64, .int .i64, .int .i64, .int .i64, .int .i64] .grow (.recs (pl l W s y w h).1))], .tup [.grw 3 (pl l W s y w h).1.length, .int .i64 (pl l W s y w h).2], rfl, rfl, rfl, rfl, rfl, ?_, ?_, ?_⟩
    · (repeat' first | exact trivial | exact rfl | refine And.intro ?_ ?_)
    · (repeat' first | exact trivial | exact rfl | refine And.intro ?_ ?_)
    intro _
    refine call_new [(0, some 0)] (rplace_ok l W s y w h hl hN) rfl rfl rfl rfl ?_ ?_ ?_
    · (repeat' first | exact trivial | exact rfl | refine And.intro ?_ ?_)
    · (repeat' first | exact trivial | exact rfl | refine And.intro ?_ ?_)
    intro v h' hv
    obtain ⟨rfl, rfl⟩ := hv
    refine ⟨[(4, some 1)], 5, [(4, .arr [.int .i64, .int .i64, .int .i64, .int .i64, .int .i64] .grow (.recs (pl l W s y w h).1))], .tup [.grw 4 (pl l W s y w h).1.length, .int .i64 (pl l W s y w h).2], rfl, rfl, rfl, rfl, rfl, ?_, ?_, ?_⟩
    · (repeat' first | exact trivial | exact rfl | refine And.intro ?_ ?_)
    · (repeat' first | exact trivial | exact rfl | refine And.intro ?_ ?_)
    intro _; refine ⟨fun g => ?_, fun g => ?_⟩
    rotate_left
    · exfalso
      have g : (be == be) = false := g
      simp at g
    intro _
    refine call_pure [(0, some 3), (1, some 4)] (same_ok (pl l W s y w h).1 (pl l W s y w h).1 (pl l W s y w h).1.length (by omega) (Nat.le_refl _) (Nat.le_refl _) (fun _ _ => rfl)) rfl rfl rfl ?_ ?_ ?_
    · (repeat' first | exact trivial | exact rfl | refine And.intro ?_ ?_)
    · (repeat' first | exact trivial | exact rfl | refine And.intro ?_ ?_)
    intro v hv _
    subst hv
    intro _; refine ⟨fun _ => ?_, fun g => (Bool.noConfusion (show true = false from g))⟩
    intro _
    show ((pl l W s y w h).2 == (pl l W s y w h).2) = true
    simp
  intro _
  refine call_pure [(0, some 0)] (Room_ok l W y h hl) rfl rfl rfl ?_ ?_ ?_
  · (repeat' first | exact trivial | exact rfl | refine And.intro ?_ ?_)
  · (repeat' first | exact trivial | exact rfl | refine And.intro ?_ ?_)
  intro v hv _
  rw [eR] at hv; subst hv
  intro _
  refine call_pure [(0, some 0)] (RRoom_ok l W y h hl) rfl rfl rfl ?_ ?_ ?_
  · (repeat' first | exact trivial | exact rfl | refine And.intro ?_ ?_)
  · (repeat' first | exact trivial | exact rfl | refine And.intro ?_ ?_)
  intro v hv _
  rw [eR] at hv; subst hv
  intro _
  refine call_pure [(0, some 0)] (valid_ok l W hl) rfl rfl rfl ?_ ?_ ?_
  · (repeat' first | exact trivial | exact rfl | refine And.intro ?_ ?_)
  · (repeat' first | exact trivial | exact rfl | refine And.intro ?_ ?_)
  intro v hv _
  subst hv
  intro _
  refine call_pure [(0, some 0)] (rvalid_ok l W hl) rfl rfl rfl ?_ ?_ ?_
  · (repeat' first | exact trivial | exact rfl | refine And.intro ?_ ?_)
  · (repeat' first | exact trivial | exact rfl | refine And.intro ?_ ?_)
  intro v hv _
  subst hv
  intro _; refine ⟨fun g => ?_, fun g => ?_⟩
  rotate_left
  · exfalso
    have g : (decide (Vd l W) == decide (Vd l W)) = false := g
    simp at g
  intro _; refine ⟨fun g => ?_, fun g => ?_⟩
  rotate_left
  · exfalso
    have g : (ra == ra && rb == rb) = false := g
    simp at g
  intro _
  refine call_pure [(0, some 0)] (Below_ok l W s hl) rfl rfl rfl ?_ ?_ ?_
  · (repeat' first | exact trivial | exact rfl | refine And.intro ?_ ?_)
  · (repeat' first | exact trivial | exact rfl | refine And.intro ?_ ?_)
  intro v hv _
  rw [eB] at hv; subst hv
  intro _
  refine call_pure [(0, some 0)] (RBelow_ok l W s hl) rfl rfl rfl ?_ ?_ ?_
  · (repeat' first | exact trivial | exact rfl | refine And.intro ?_ ?_)
  · (repeat' first | exact trivial | exact rfl | refine And.intro ?_ ?_)
  intro v hv _
  rw [eB] at hv; subst hv
  intro _; refine ⟨fun g => ?_, fun g => ?_⟩
  rotate_left
  · exfalso
    have g : (re == re) = false := g
    simp at g
  intro _; refine ⟨fun g => ?_, fun g => ?_⟩
  rotate_left
  · exfalso
    have g : (ba == ba) = false := g
    simp at g
  intro _
  refine call_new [(0, some 0)] (place_ok l W s y w h hl) rfl rfl rfl rfl ?_ ?_ ?_
  · (repeat' first | exact trivial | exact rfl | refine And.intro ?_ ?_)
  · (repeat' first | exact trivial | exact rfl | refine And.intro ?_ ?_)
  intro v h' hv
  obtain ⟨rfl, rfl⟩ := hv
  refine ⟨[(3, some 1)], 4, [(3, .arr [.int .i64, .int .i64, .int .i64, .int .i64, .int .i64] .grow (.recs (pl l W s y w h).1))], .tup [.grw 3 (pl l W s y w h).1.length, .int .i64 (pl l W s y w h).2], rfl, rfl, rfl, rfl, rfl, ?_, ?_, ?_⟩
  · (repeat' first | exact trivial | exact rfl | refine And.intro ?_ ?_)
  · (repeat' first | exact trivial | exact rfl | refine And.intro ?_ ?_)
  intro _
  refine call_new [(0, some 0)] (rplace_ok l W s y w h hl hN) rfl rfl rfl rfl ?_ ?_ ?_
  · (repeat' first | exact trivial | exact rfl | refine And.intro ?_ ?_)
  · (repeat' first | exact trivial | exact rfl | refine And.intro ?_ ?_)
  intro v h' hv
  obtain ⟨rfl, rfl⟩ := hv
  refine ⟨[(4, some 1)], 5, [(4, .arr [.int .i64, .int .i64, .int .i64, .int .i64, .int .i64] .grow (.recs (pl l W s y w h).1))], .tup [.grw 4 (pl l W s y w h).1.length, .int .i64 (pl l W s y w h).2], rfl, rfl, rfl, rfl, rfl, ?_, ?_, ?_⟩
  · (repeat' first | exact trivial | exact rfl | refine And.intro ?_ ?_)
  · (repeat' first | exact trivial | exact rfl | refine And.intro ?_ ?_)
  intro _; refine ⟨fun g => ?_, fun g => ?_⟩
  rotate_left
  · exfalso
    have g : (be == be) = false := g
    simp at g
  intro _
  refine call_pure [(0, some 3), (1, some 4)] (same_ok (pl l W s y w h).1 (pl l W s y w h).1 (pl l W s y w h).1.length (by omega) (Nat.le_refl _) (Nat.le_refl _) (fun _ _ => rfl)) rfl rfl rfl ?_ ?_ ?_
  · (repeat' first | exact trivial | exact rfl | refine And.intro ?_ ?_)
  · (repeat' first | exact trivial | exact rfl | refine And.intro ?_ ?_)
  intro v hv _
  subst hv
  intro _; refine ⟨fun _ => ?_, fun g => (Bool.noConfusion (show true = false from g))⟩
  intro _
  show ((pl l W s y w h).2 == (pl l W s y w h).2) = true
  simp

theorem walk (w : World) (v_q0 : Value) (s_q0 : Src) (q0 : List (List Go.Vm2.D)) (cap_q0 : Nat) (hk_q0 : s_q0.ks = [.int .i64, .int .i64, .int .i64, .int .i64, .int .i64]) (ha_q0 : s_q0.ac = .recs q0) (hs_q0 : s_q0.lies w) (hn_q0 : s_q0.at_ = none → q0.length = 0) (hc_q0 : q0.length ≤ cap_q0) (hv_q0 : v_q0 = s_q0.val cap_q0) (hm_q0 : q0.length ≤ maxLen) (w_q0 : ∀ n ∈ q0, rowWf [.int .i64, .int .i64, .int .i64, .int .i64, .int .i64] n) (wd : Int) (w_wd : (Lit.int .i64 wd).wf = true) (n0 : Int) (w_n0 : (Lit.int .i64 n0).wf = true) (n1 : Int) (w_n1 : (Lit.int .i64 n1).wf = true) (n2 : Int) (w_n2 : (Lit.int .i64 n2).wf = true) (n3 : Int) (w_n3 : (Lit.int .i64 n3).wf = true) :
    Calls Try.prog 3 #[v_q0, .int .i64 wd, .int .i64 n0, .int .i64 n1, .int .i64 n2, .int .i64 n3] w fun e w' => e = .returned (.bool true) ∧ Below w.heap.size w w' := by
  obtain ⟨at_q0, ks_q0, ac_q0⟩ := s_q0
  simp only [] at hk_q0 ha_q0
  subst hk_q0 ha_q0
  have h_q0 : q0.length ≤ 9223372036854775807 := by unfold maxLen at hm_q0; omega
  have b_wd := w_wd
  simp [Lit.wf, IntKind.min, IntKind.max, IntKind.signed, IntKind.bits] at b_wd
  have b_n0 := w_n0
  simp [Lit.wf, IntKind.min, IntKind.max, IntKind.signed, IntKind.bits] at b_n0
  have b_n1 := w_n1
  simp [Lit.wf, IntKind.min, IntKind.max, IntKind.signed, IntKind.bits] at b_n1
  have b_n2 := w_n2
  simp [Lit.wf, IntKind.min, IntKind.max, IntKind.signed, IntKind.bits] at b_n2
  have b_n3 := w_n3
  simp [Lit.wf, IntKind.min, IntKind.max, IntKind.signed, IntKind.bits] at b_n3
  exact top_run (by kernel_rfl) (by kernel_rfl) (T := [9]) (fun f hf w => by
      rcases List.mem_cons.1 hf with e | e
      · subst e; exact head w
      · exact (List.not_mem_nil e).elim) (l := [⟨at_q0, [.int .i64, .int .i64, .int .i64, .int .i64, .int .i64], .recs q0⟩]) (args := [.slc 0 5 0 q0.length, .int .i64 wd, .int .i64 n0, .int .i64 n1, .int .i64 n2, .int .i64 n3]) («as» := [Src.av 0 cap_q0 ⟨at_q0, [.int .i64, .int .i64, .int .i64, .int .i64, .int .i64], .recs q0⟩, .int .i64 wd, .int .i64 n0, .int .i64 n1, .int .i64 n2, .int .i64 n3]) (cargs := [v_q0, .int .i64 wd, .int .i64 n0, .int .i64 n1, .int .i64 n2, .int .i64 n3]) w
    (fun s h => by
      rcases List.mem_cons.1 h with e | h
      · subst e; exact hs_q0
      · exact (List.not_mem_nil h).elim)
    (Cvs.cons (src_cv (s := ⟨at_q0, [.int .i64, .int .i64, .int .i64, .int .i64, .int .i64], .recs q0⟩) rfl 5 hc_q0 hn_q0) (Cvs.cons mk_int (Cvs.cons mk_int (Cvs.cons mk_int (Cvs.cons mk_int (Cvs.cons mk_int Cvs.nil))))))
    (by simp only [Go.Vm.convs, Go.Vm.conv]; rw [src_conv (j := 0) (s := ⟨at_q0, [.int .i64, .int .i64, .int .i64, .int .i64, .int .i64], .recs q0⟩) rfl, hv_q0])
    (law3 q0 wd n0 n1 n2 n3 h_q0 (Nmw w_q0))

set_option maxRecDepth 100000 in
theorem lifted (os : Os) (started : os.Started) (H : Type) (enc : TypeId × Value → H) :
    ReturnsInHanded {} Try.checked os 3 .any (Rows.floatsMatchesReferenceSpec.pre6 enc Try.prog Try.f3 Rows.floatsMatchesReferenceRow.domain false) (Rows.floatsMatchesReferenceSpec.post enc Try.prog Try.f3 false true false false) := by
  refine returnsInHanded_of_change (C := Try.checked) own started (by kernel_rfl) Try.func3
    (ChangeSpec.witness6 (enc := enc) (C := Try.checked) false ⟨#[], #[.slice none 0 0, .int .i64 0, .int .i64 0, .int .i64 0, .int .i64 0, .int .i64 0], []⟩ 8 (by kernel_rfl) (by kernel_rfl) (by kernel_rfl) (by kernel_rfl)) ?_
  intro W base args ds gs before hval0 hW hcnd _
  have hval : ∀ (j : Nat) t v, Try.f3.params[j]? = some t → args[j]? = some v → Value.okWide Try.prog W .any base t v := hval0
  have hW' := hW
  obtain ⟨p, q, hA0, hV, rfl, hfz, hnd⟩ := hW
  have hA : DataW.TrodAll enc Try.prog W 0 (fun _ => true) true Try.f3.params.toList args.toList ds p := hA0
  rw [Try.params3] at hA hval
  obtain ⟨v0, vs0, d0, ds0, p0, q0, hargs, rfl, rfl, h0, r0⟩ := trodAll_cons hA
  obtain ⟨v1, vs1, d1, ds1, p1, q1, rfl, rfl, rfl, h1, r1⟩ := trodAll_cons r0
  obtain ⟨v2, vs2, d2, ds2, p2, q2, rfl, rfl, rfl, h2, r2⟩ := trodAll_cons r1
  obtain ⟨v3, vs3, d3, ds3, p3, q3, rfl, rfl, rfl, h3, r3⟩ := trodAll_cons r2
  obtain ⟨v4, vs4, d4, ds4, p4, q4, rfl, rfl, rfl, h4, r4⟩ := trodAll_cons r3
  obtain ⟨v5, vs5, d5, ds5, p5, q5, rfl, rfl, rfl, h5, r5⟩ := trodAll_cons r4
  obtain ⟨rfl, rfl, rfl⟩ := trodAll_nil r5
  obtain rfl : args = #[v0, v1, v2, v3, v4, v5] := by cases args; simp_all
  obtain ⟨rfl, rfl⟩ := trodVars_none hV
  obtain ⟨s_q0, q0, cap_q0, hk_q0, ha_q0, hs_q0, hn_q0, hc_q0, hv_q0, hm_q0, w_q0⟩ := Go.Vm2.open_recs (ks := [.int .i64, .int .i64, .int .i64, .int .i64, .int .i64]) Try.underlying22 Try.underlying41 (by kernel_rfl) (by simp) (by kernel_rfl) (hval 0 22 v0 rfl rfl) h0
  have hlt0 : ∀ x ∈ p0, x.block < W.heap.size := fun x hx => by simpa using hW'.lt x (by simp [hx])
  obtain ⟨wd, rfl, rfl, rfl, w_wd⟩ := open_int Try.underlying3 (hval 1 3 v1 rfl rfl) h1
  obtain ⟨n0, rfl, rfl, rfl, w_n0⟩ := open_int Try.underlying3 (hval 2 3 v2 rfl rfl) h2
  obtain ⟨n1, rfl, rfl, rfl, w_n1⟩ := open_int Try.underlying3 (hval 3 3 v3 rfl rfl) h3
  obtain ⟨n2, rfl, rfl, rfl, w_n2⟩ := open_int Try.underlying3 (hval 4 3 v4 rfl rfl) h4
  obtain ⟨n3, rfl, rfl, rfl, w_n3⟩ := open_int Try.underlying3 (hval 5 3 v5 rfl rfl) h5
  clear hA0 hval0
  refine (walk W v0 s_q0 q0 cap_q0 hk_q0 ha_q0 hs_q0 hn_q0 hc_q0 hv_q0 hm_q0 w_q0 wd w_wd n0 w_n0 n1 w_n1 n2 w_n2 n3 w_n3).mono fun e W' ⟨he, hg⟩ => ?_
  subst he
  exact ⟨_, rfl, _, _, _, [], _, [], hW', trodAll_cons_mk (shut_bool Try.underlying4 _) trodAll_mk0, (trodAll_cons_mk (Below.trod laidOut (by kernel_rfl) (of_decide_eq_true (by kernel_rfl)) h0 hg hlt0) (trodAll_cons_mk (shut_int Try.underlying3 w_wd) (trodAll_cons_mk (shut_int Try.underlying3 w_n0) (trodAll_cons_mk (shut_int Try.underlying3 w_n1) (trodAll_cons_mk (shut_int Try.underlying3 w_n2) (trodAll_cons_mk (shut_int Try.underlying3 w_n3) trodAll_mk0)))))), rfl, hg.frame _, fun h => by cases h⟩

theorem over : Rows.floatsMatchesReferenceRow.holds Try.pinned (OpenSpec.ofChange Rows.floatsMatchesReferenceSpec) :=
  OpenClaim.holds_of_wide 3 Try.f3 rfl rfl rfl rfl rfl rfl rfl ⟨rfl, rfl, rfl, rfl, rfl⟩ rfl rfl rfl rfl rfl (by kernel_rfl) Try.func3 (by kernel_rfl)
    (of_decide_eq_true (by kernel_rfl)) (by unfold Func.isWrapper; first | (rw [if_pos (by decide +kernel)]; kernel_rfl) | (rw [if_neg (by decide +kernel)]; exact ⟨rfl, rfl⟩))
    (fun os started H enc _ => lifted os started H enc)

/-- the statement -/
theorem proved : Rows.FloatsMatchesReferenceSaid :=
  over
#print axioms proved
end Go.Proofs.Ytfkpnondknfmeaa.floatsMatchesReference
