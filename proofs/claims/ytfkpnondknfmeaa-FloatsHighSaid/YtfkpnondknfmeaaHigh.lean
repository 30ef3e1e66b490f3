/-
  FloatsHigh: whatever the arguments, the law returns true, and its arguments read as before. No conditions.
-/
import Derived.Test.YtfkpnondknfmeaaRows
import Derived.Test.YtfkpnondknfmeaaVwOpen2
import Derived.Test.YtfkpnondknfmeaaVwRules7
import Derived.Test.YtfkpnondknfmeaaVmFast3
import Derived.WalkKit
import Derived.ProofKit
import Derived.OpenShut
import Derived.Carry
import Derived.Test.YtfkpnondknfmeaaSrtA
import Derived.Test.YtfkpnondknfmeaaSrtB
import Derived.Test.YtfkpnondknfmeaaPlcA
namespace Go.Proofs.Ytfkpnondknfmeaa.floatsHigh
open Go.ChangeShapes Go.WideShapes Go.ChangeAt Go.RowKit
open Go.Vm (Facts Val Sound)
open Go.Vm2
set_option linter.unusedVariables false
set_option linter.unusedSectionVars false

open Go.Proofs.Ytfkpnondknfmeaa.floatsApart
theorem own : ownKnob Try.prog.godebug = none := by kernel_rfl
theorem laidOut : laidOutB Try.prog = true := by kernel_rfl
set_option maxRecDepth 100000
abbrev Rows := List (List Go.Vm2.D)
theorem rr_mark : True := trivial
set_option maxHeartbeats 2000000 in
theorem rroom_ok (l : Rows) (W y h : Int) (hV : Vd l W) (hy : 0 ≤ y ∧ y ≤ 2000000000) (hh : 0 ≤ h ∧ h ≤ 1000000) : SemF Try.prog 27 [.slc 0 5 0 l.length, .int .i64 W, .int .i64 y, .int .i64 h] ⟨1, 1, [(0, .arr [.int .i64, .int .i64, .int .i64, .int .i64, .int .i64] .rd (.recs l))]⟩ (fun v _ => v = .agg [.int .i64 (Lo l y h l.length), .int .i64 (max (Hi l W y h l.length) (Lo l y h l.length))] ∧ nameless v = true) := by
  obtain ⟨⟨h200, hW⟩, hF⟩ := hV
  refine enter tt_ok Try.func27 (nt := 66) (cd := body Try.f27) rfl rfl rfl rfl ?_
  intro _
  refine loop2 tt_ok [10] [2] 3 (fun k : { k : Nat // k ≤ l.length } => [(10, .int .i64 (k : Nat))]) (fun k => [(2, .cells [.int .i64 (Lo l y h k), .int .i64 (Hi l W y h k)])]) (fun k => l.length - k) ⟨0, by omega⟩ ?_
  intro _
  refine ⟨⟨th [] 3, rfl, rfl, rfl, rfl, rfl, rfl, ?_, ?_⟩, ?_⟩
  · (repeat' first | exact trivial | exact rfl | refine And.intro ?_ ?_)
  · (repeat' first | exact trivial | exact rfl | refine And.intro ?_ ?_)
  intro ⟨k, hk⟩
  have z : 0 + k = k := Nat.zero_add k
  intro _; refine ⟨fun g => ?_, fun g => ?_⟩
  rotate_left
  · have hkl := of_decide_eq_false (show decide ((k : Int) < (l.length : Int)) = false from g)
    obtain rfl : k = l.length := by omega
    intro _
    refine ⟨?_, rfl⟩
    show V.agg [.int .i64 (Lo l y h l.length), .int .i64 (max (Lo l y h l.length) (Hi l W y h l.length))] = _
    rw [Int.max_comm]
  have hkl := of_decide_eq_true (show decide ((k : Int) < (l.length : Int)) = true from g)
  have i1 : 0 ≤ (k : Int) ∧ (k : Int) < (l.length : Int) := by omega
  have i2 : 0 + (k : Int).toNat < l.length := by omega
  intro _; refine ⟨i1, ?_⟩
  intro _; refine ⟨i2, ?_⟩
  obtain ⟨f0, f1, f2, f3, f4⟩ := hF k (by omega)
  have eh : (decide (fh l (0 + k) > 0 ∧ fy l (0 + k) < IntKind.i64.wrap (y + max h 1) ∧ IntKind.i64.wrap (fy l (0 + k) + fh l (0 + k)) > y)) = hs l y h k := by
    rw [z, wrapS _ ⟨by omega, by omega⟩, wrapS _ ⟨by omega, by omega⟩]; rfl
  have ek := (wrap_nat k (by omega)).symm
  intro _
  refine call_pure [] (beside_ok y h (sd l (0 + k)) (fx l (0 + k)) (fy l (0 + k)) (fw l (0 + k)) (fh l (0 + k))) rfl rfl rfl ?_ ?_ ?_
  · (repeat' first | exact trivial | exact rfl | refine And.intro ?_ ?_)
  · (repeat' first | exact trivial | exact rfl | refine And.intro ?_ ?_)
  intro v hv _
  subst hv
  intro _; refine ⟨fun g => ?_, fun g => ?_⟩
  · have g : (!(decide (fh l (0 + k) > 0 ∧ fy l (0 + k) < IntKind.i64.wrap (y + max h 1) ∧ IntKind.i64.wrap (fy l (0 + k) + fh l (0 + k)) > y))) = true := g
    rw [eh, Bool.not_eq_true'] at g
    refine ⟨⟨k + 1, by omega⟩, by show l.length - (k + 1) < l.length - k; omega, th [] 3, rfl, rfl, rfl, rfl, rfl, rfl, ?_, ?_⟩
    · (repeat' first | exact trivial | exact rfl | refine And.intro ?_ ?_)
      exact ek
    · (repeat' first | exact trivial | exact rfl | refine And.intro ?_ ?_)
      · show Lo l y h (k + 1) = Lo l y h k
        show (if hs l y h k = true ∧ sd l k = 1 then max (Lo l y h k) (fx l k + fw l k) else Lo l y h k) = _; rw [if_neg (by rw [g]; simp)]
      · show Hi l W y h (k + 1) = Hi l W y h k
        show (if hs l y h k = true ∧ sd l k ≠ 1 then min (Hi l W y h k) (fx l k) else Hi l W y h k) = _; rw [if_neg (by rw [g]; simp)]
  have g : (!(decide (fh l (0 + k) > 0 ∧ fy l (0 + k) < IntKind.i64.wrap (y + max h 1) ∧ IntKind.i64.wrap (fy l (0 + k) + fh l (0 + k)) > y))) = false := g
  rw [eh, Bool.not_eq_false'] at g
  have hh1 := g
  have eF : IntKind.i64.wrap (fx l (0 + k) + fw l (0 + k)) = fx l k + fw l k := by rw [z]; exact wrapS _ ⟨by omega, by omega⟩
  intro _; refine ⟨i1, ?_⟩
  intro _; refine ⟨i2, ?_⟩
  intro _; refine ⟨fun g => ?_, fun g => ?_⟩
  · have g : (sd l (0 + k) == 1) = true := g
    rw [z] at g
    have s1 : sd l k = 1 := by simpa using g
    intro _; refine ⟨i1, ?_⟩
    intro _; refine ⟨i2, ?_⟩
    intro _; refine ⟨i1, ?_⟩
    intro _; refine ⟨i2, ?_⟩
    intro _; refine ⟨by kernel_rfl, ?_⟩
    refine ⟨⟨k + 1, by omega⟩, by show l.length - (k + 1) < l.length - k; omega, th [] 3, rfl, rfl, rfl, rfl, rfl, rfl, ?_, ?_⟩
    · (repeat' first | exact trivial | exact rfl | refine And.intro ?_ ?_)
      exact ek
    · (repeat' first | exact trivial | exact rfl | refine And.intro ?_ ?_)
      · show (if hs l y h k = true ∧ sd l k = 1 then max (Lo l y h k) (fx l k + fw l k) else Lo l y h k) = max (Lo l y h k) (IntKind.i64.wrap (fx l (0 + k) + fw l (0 + k)))
        rw [if_pos ⟨hh1, s1⟩, eF]
      · show (if hs l y h k = true ∧ sd l k ≠ 1 then min (Hi l W y h k) (fx l k) else Hi l W y h k) = _; rw [if_neg (fun h => h.2 s1)]
  · have g : (sd l (0 + k) == 1) = false := g
    rw [z] at g
    have s1 : sd l k ≠ 1 := by simpa using g
    intro _; refine ⟨i1, ?_⟩
    intro _; refine ⟨i2, ?_⟩
    intro _; refine ⟨by kernel_rfl, ?_⟩
    refine ⟨⟨k + 1, by omega⟩, by show l.length - (k + 1) < l.length - k; omega, th [] 3, rfl, rfl, rfl, rfl, rfl, rfl, ?_, ?_⟩
    · (repeat' first | exact trivial | exact rfl | refine And.intro ?_ ?_)
      exact ek
    · (repeat' first | exact trivial | exact rfl | refine And.intro ?_ ?_)
      · show (if hs l y h k = true ∧ sd l k = 1 then max (Lo l y h k) (fx l k + fw l k) else Lo l y h k) = _; rw [if_neg (fun h => s1 h.2)]
      · show (if hs l y h k = true ∧ sd l k ≠ 1 then min (Hi l W y h k) (fx l k) else Hi l W y h k) = min (Hi l W y h k) (fx l (0 + k)); rw [if_pos ⟨hh1, s1⟩, z]
set_option maxHeartbeats 2000000 in
theorem free_ok (l : Rows) (W y w h : Int) (hV : Vd l W) (hy : 0 ≤ y ∧ y ≤ 2000000000) (hh : 0 ≤ h ∧ h ≤ 1000000) : SemF Try.prog 20 [.slc 0 5 0 l.length, .int .i64 W, .int .i64 y, .int .i64 w, .int .i64 h] ⟨1, 1, [(0, .arr [.int .i64, .int .i64, .int .i64, .int .i64, .int .i64] .rd (.recs l))]⟩ (fun v _ => v = .test (decide (FreeAt l W y w h)) ∧ nameless v = true) := by
  refine SemF.test ?_
  refine enter tt_ok Try.func20 (nt := 48) (cd := body Try.f20) rfl rfl rfl rfl ?_
  intro _
  refine loop2 tt_ok [12, 11] [] 1 (fun k : { k : Nat // k ≤ l.length } => [(12, .int .i64 (k : Nat)), (11, .test (Fr l y h k))]) (fun k => []) (fun k => l.length - k) ⟨0, by omega⟩ ?_
  intro _
  refine ⟨⟨th [] 1, rfl, rfl, rfl, rfl, rfl, rfl, ?_, ?_⟩, ?_⟩
  · (repeat' first | exact trivial | exact rfl | refine And.intro ?_ ?_)
  · (repeat' first | exact trivial | exact rfl | refine And.intro ?_ ?_)
  intro ⟨k, hk⟩
  have z : 0 + k = k := Nat.zero_add k
  have h2c := hV.1.1
  intro _; refine ⟨fun g => ?_, fun g => ?_⟩
  rotate_left
  · have hkl := of_decide_eq_false (show decide ((k : Int) < (l.length : Int)) = false from g)
    obtain rfl : k = l.length := by omega
    intro _
    refine call_pure [(0, some 0)] (rroom_ok l W y h hV hy hh) rfl rfl rfl ?_ ?_ ?_
    · (repeat' first | exact trivial | exact rfl | refine And.intro ?_ ?_)
    · (repeat' first | exact trivial | exact rfl | refine And.intro ?_ ?_)
    intro v hv _
    subst hv
    have bl := lo_bd (y := y) (h := h) hV l.length (Nat.le_refl _)
    have bh := hi_bd (y := y) (h := h) hV l.length (Nat.le_refl _)
    intro _; refine ⟨fun g => ?_, fun g => ?_⟩
    · have g : Fr l y h l.length = true := g
      intro _
      exact ⟨true, .inl rfl, by rw [decide_eq_true (show FreeAt l W y w h from .inl g)], rfl⟩
    · have g : Fr l y h l.length = false := g
      intro _
      refine ⟨_, .inr rfl, ?_, rfl⟩
      have e : decide (FreeAt l W y w h) = decide (w ≤ IntKind.i64.wrap (max (Hi l W y h l.length) (Lo l y h l.length) - Lo l y h l.length)) := by
        rw [wrapS _ ⟨by omega, by omega⟩]
        refine decide_eq_decide.2 ⟨fun q => q.elim (fun q => by rw [g] at q; cases q) id, .inr⟩
      exact congrArg V.test e.symm
  have hkl := of_decide_eq_true (show decide ((k : Int) < (l.length : Int)) = true from g)
  intro _; refine ⟨show 0 ≤ (k : Int) ∧ (k : Int) < (l.length : Int) by omega, ?_⟩
  intro _; refine ⟨show 0 + (k : Int).toNat < l.length by omega, ?_⟩
  obtain ⟨f0, f1, f2, f3, f4⟩ := hV.2 k (by omega)
  have eh : (decide (fh l (0 + k) > 0 ∧ fy l (0 + k) < IntKind.i64.wrap (y + max h 1) ∧ IntKind.i64.wrap (fy l (0 + k) + fh l (0 + k)) > y)) = hs l y h k := by
    rw [z, wrapS _ ⟨by omega, by omega⟩, wrapS _ ⟨by omega, by omega⟩]; rfl
  have ek := (wrap_nat k (by omega)).symm
  intro _
  refine call_pure [] (beside_ok y h (sd l (0 + k)) (fx l (0 + k)) (fy l (0 + k)) (fw l (0 + k)) (fh l (0 + k))) rfl rfl rfl ?_ ?_ ?_
  · (repeat' first | exact trivial | exact rfl | refine And.intro ?_ ?_)
  · (repeat' first | exact trivial | exact rfl | refine And.intro ?_ ?_)
  intro v hv _
  subst hv
  intro _; refine ⟨fun g => ?_, fun g => ?_⟩
  · have g : Fr l y h k = true := g
    refine ⟨⟨k + 1, by omega⟩, by show l.length - (k + 1) < l.length - k; omega, th [] 1, rfl, rfl, rfl, rfl, rfl, rfl, ?_, ?_⟩
    · (repeat' first | exact trivial | exact rfl | refine And.intro ?_ ?_)
      · exact ek
      · show (!hs l y h k && Fr l y h k) = !(decide (fh l (0 + k) > 0 ∧ fy l (0 + k) < IntKind.i64.wrap (y + max h 1) ∧ IntKind.i64.wrap (fy l (0 + k) + fh l (0 + k)) > y))
        rw [eh, g, Bool.and_true]
    · (repeat' first | exact trivial | exact rfl | refine And.intro ?_ ?_)
  · have g : Fr l y h k = false := g
    refine ⟨⟨k + 1, by omega⟩, by show l.length - (k + 1) < l.length - k; omega, th [] 1, rfl, rfl, rfl, rfl, rfl, rfl, ?_, ?_⟩
    · (repeat' first | exact trivial | exact rfl | refine And.intro ?_ ?_)
      · exact ek
      · show (!hs l y h k && Fr l y h k) = false
        rw [g, Bool.and_false]
    · (repeat' first | exact trivial | exact rfl | refine And.intro ?_ ?_)
set_option maxHeartbeats 2000000 in
theorem same_ok (l r : Rows) (n : Nat) (hn : n ≤ 9223372036854775806) (h1 : n ≤ l.length) (h2 : n ≤ r.length) (he : ∀ i, i < n → l.getD i [] = r.getD i []) : SemF Try.prog 18 [.slc 0 5 0 n, .slc 1 5 0 n] ⟨2, 2, [(0, .arr [.int .i64, .int .i64, .int .i64, .int .i64, .int .i64] .rd (.recs l)), (1, .arr [.int .i64, .int .i64, .int .i64, .int .i64, .int .i64] .rd (.recs r))]⟩ (fun v _ => v = .test true ∧ nameless v = true) := by
  refine SemF.test ?_
  refine enter tt_ok Try.func18 (nt := 26) (cd := body Try.f18) rfl rfl rfl rfl ?_
  intro _; refine ⟨fun g => ?_, fun g => ?_⟩
  · exfalso
    have g : ((n : Int) != (n : Int)) = true := g
    simp at g
  intro _
  refine loop2 tt_ok [5] [] 2 (fun k : { k : Nat // k ≤ n } => [(5, .int .i64 (k : Nat))]) (fun k => []) (fun k => n - k) ⟨0, by omega⟩ ?_
  intro _
  refine ⟨⟨th [] 2, rfl, rfl, rfl, rfl, rfl, rfl, ?_, ?_⟩, ?_⟩
  · (repeat' first | exact trivial | exact rfl | refine And.intro ?_ ?_)
  · (repeat' first | exact trivial | exact rfl | refine And.intro ?_ ?_)
  intro ⟨k, hk⟩
  have z : 0 + k = k := Nat.zero_add k
  intro _; refine ⟨fun g => ?_, fun g => ?_⟩
  rotate_left
  · intro _
    exact ⟨true, .inl rfl, rfl, rfl⟩
  have hkl := of_decide_eq_true (show decide ((k : Int) < (n : Int)) = true from g)
  have i1 : 0 ≤ (k : Int) ∧ (k : Int) < (n : Int) := by omega
  intro _; refine ⟨i1, ?_⟩
  intro _; refine ⟨show 0 + (k : Int).toNat < l.length by omega, ?_⟩
  intro _; refine ⟨i1, ?_⟩
  intro _; refine ⟨show 0 + (k : Int).toNat < r.length by omega, ?_⟩
  intro _; refine ⟨by kernel_rfl, ?_⟩
  intro _; refine ⟨fun g => ?_, fun g => ?_⟩
  · exfalso
    have g : (!(sd l (0 + k) == sd r (0 + k) && (fx l (0 + k) == fx r (0 + k) && (fy l (0 + k) == fy r (0 + k) && (fw l (0 + k) == fw r (0 + k) && fh l (0 + k) == fh r (0 + k)))))) = true := g
    unfold sd fx fy fw fh at g
    rw [z, he k (by omega)] at g
    simp at g
  refine ⟨⟨k + 1, by omega⟩, by show n - (k + 1) < n - k; omega, th [] 2, rfl, rfl, rfl, rfl, rfl, rfl, ?_, ?_⟩
  · (repeat' first | exact trivial | exact rfl | refine And.intro ?_ ?_)
    exact (wrap_nat k (by omega)).symm
  · (repeat' first | exact trivial | exact rfl | refine And.intro ?_ ?_)
theorem hs_mono {l : Rows} {e t h : Int} (hF : ∀ i, i < l.length → fy l i ≤ e) (het : e ≤ t) (hmax : ∀ i, i < l.length → fy l i + fh l i > e → fy l i + fh l i > t) {i : Nat} (hi : i < l.length) (hb : hs l e h i = true) : hs l t h i = true := by
  have hb := of_decide_eq_true hb
  have := hF i hi
  have := hmax i hi hb.2.2
  exact decide_eq_true (by omega)
theorem mono_lo {l : Rows} {W e t h : Int} (hb : ∀ i, i < l.length → hs l e h i = true → hs l t h i = true) : ∀ k, k ≤ l.length → Lo l e h k ≤ Lo l t h k ∧ Hi l W t h k ≤ Hi l W e h k ∧ (Fr l t h k = true → Fr l e h k = true)
  | 0, _ => ⟨Int.le_refl _, Int.le_refl _, fun h => h⟩
  | k + 1, hk => by
    obtain ⟨i1, i2, i3⟩ := mono_lo (W := W) hb k (by omega)
    have hb' := hb k (by omega)
    show (if hs l e h k = true ∧ sd l k = 1 then max (Lo l e h k) (fx l k + fw l k) else Lo l e h k) ≤ (if hs l t h k = true ∧ sd l k = 1 then max (Lo l t h k) (fx l k + fw l k) else Lo l t h k) ∧ (if hs l t h k = true ∧ sd l k ≠ 1 then min (Hi l W t h k) (fx l k) else Hi l W t h k) ≤ (if hs l e h k = true ∧ sd l k ≠ 1 then min (Hi l W e h k) (fx l k) else Hi l W e h k) ∧ ((!hs l t h k && Fr l t h k) = true → (!hs l e h k && Fr l e h k) = true)
    cases c : hs l e h k with
    | true =>
      rw [hb' c]
      by_cases q : sd l k = 1
      · rw [if_pos ⟨rfl, q⟩, if_pos ⟨rfl, q⟩, if_neg (fun e => e.2 q), if_neg (fun e => e.2 q)]
        refine ⟨by omega, by omega, fun h => by simp at h⟩
      · rw [if_neg (fun e => q e.2), if_neg (fun e => q e.2), if_pos ⟨rfl, q⟩, if_pos ⟨rfl, q⟩]
        refine ⟨by omega, by omega, fun h => by simp at h⟩
    | false =>
      rw [if_neg (fun e => by cases e.1), if_neg (fun e : false = true ∧ sd l k ≠ 1 => by cases e.1)]
      refine ⟨by split <;> omega, by split <;> omega, fun h => ?_⟩
      rw [Bool.and_eq_true] at h
      rw [i3 h.2]; rfl
/-- at no height between is it free -/
theorem high_no {l : Rows} {W y w h a t : Int} (hp : PA l W y w h a) (h1 : mx l y l.length ≤ t) (h2 : t < a) : ¬ FreeAt l W t w h := by
  have hm : ∀ v, v ∈ en l (mx l y l.length) l.length ↔ Cand l (mx l y l.length) v := fun v => en_mem _
  obtain ⟨e, e1, e2⟩ := list_max ((en l (mx l y l.length) l.length).filter (fun v => decide (v ≤ t))) (fun q => by
    have : mx l y l.length ∈ (en l (mx l y l.length) l.length).filter (fun v => decide (v ≤ t)) := List.mem_filter.2 ⟨(hm _).2 (.inl rfl), decide_eq_true h1⟩
    rw [q] at this; exact (List.not_mem_nil this).elim)
  obtain ⟨e3, e4⟩ := List.mem_filter.1 e1
  have e4 := of_decide_eq_true e4
  have e5 := (hm e).1 e3
  have e6 := cand_ge e5
  have hno := hp.2 e e5 (by omega)
  have hb := fun (i : Nat) (hi : i < l.length) (q : hs l e h i = true) => hs_mono (l := l) (e := e) (t := t) (h := h) (fun i hi => by
    have := (mx_ge (l := l) (y := y) l.length).2 i hi; omega) e4 (fun i hi q => by
      refine Classical.byContradiction fun c => ?_
      have := e2 (fy l i + fh l i) (List.mem_filter.2 ⟨(hm _).2 (.inr ⟨i, hi, rfl, by omega⟩), decide_eq_true (by omega)⟩)
      omega) hi q
  obtain ⟨k1, k2, k3⟩ := mono_lo (W := W) hb l.length (Nat.le_refl _)
  rintro (q | q)
  · exact hno (.inl (k3 q))
  · exact hno (.inr (by omega))
def Ps (L : Rows) : Prop := ∀ i, i < L.length → qy L i ≤ 299 ∧ qh L i ≤ 99
theorem Gd.near {L : Rows} {W : Int} {m : Bool} (hL : Pb L) (hS : Ps L) (hW : 0 ≤ W ∧ W ≤ 65535) (h20 : L.length ≤ 20) : ∀ i, i ≤ L.length → ∀ k, k < i → fy (pls L W m i) k + fh (pls L W m i) k ≤ 299 + 99 * (i : Int)
  | 0, _, k, hk => by omega
  | i + 1, hi, k, hk => by
    have ih := Gd.near (m := m) hL hS hW h20 i (by omega)
    have g := Gd.all m hL hW h20 i (by omega)
    have e : pls L W m (i + 1) = pls L W m i ++ [prow (pls L W m i) W (sdm L m i) (floatsApart.hgt L W m i) (wdt L W i) (qh L i)] := g.suc hL hW (by omega) h20
    by_cases c : k = i
    · subst c
      obtain ⟨q1, q2, q3, q4, q5⟩ := prow_get (pls L W m k) W (sdm L m k) (floatsApart.hgt L W m k) (wdt L W k) (qh L k)
      rw [← e, g.len] at q3 q5
      rw [q3, q5]
      obtain ⟨s1, s2⟩ := hS k (by omega)
      obtain ⟨_, b2, _, b4⟩ := hL k (by omega)
      have hm := mx_bd (l := pls L W m k) (y := qy L k) (B := 299 + 99 * (k : Int)) ⟨b2.1, by omega⟩ (pls L W m k).length (fun j hj => by
        rw [g.len] at hj
        have := ih j hj
        obtain ⟨_, _, _, f4, f5⟩ := g.fl j hj
        omega)
      have : floatsApart.hgt L W m k ≤ 299 + 99 * (k : Int) := by
        unfold floatsApart.hgt
        rcases (pa_spec (pls L W m k) W (qy L k) (wdt L W k) (qh L k)).1.1 with e | ⟨j, j1, e, j3⟩
        · rw [e]; exact hm.2
        · rw [e]; rw [g.len] at j1; exact ih j j1
      omega
    · obtain ⟨o1, o2, o3, o4, o5⟩ := prow_old (l := pls L W m i) (r := prow (pls L W m i) W (sdm L m i) (floatsApart.hgt L W m i) (wdt L W i) (qh L i)) (i := k) (by rw [g.len]; omega)
      rw [← e] at o3 o5
      rw [o3, o5]
      have := ih k (by omega); omega
/-! the puts, with heights made small -/
def lrow (L : Rows) (k : Nat) : List D := [(L.getD k []).getD 0 (.n 0), D.n ((qy L k).tmod 300), (L.getD k []).getD 2 (.n 0), D.n ((qh L k).tmod 100)]
def lowk (L : Rows) : Nat → Rows
  | 0 => L
  | k + 1 => (lowk L k).set k (lrow L k)
theorem lowk_len (L : Rows) : ∀ k, (lowk L k).length = L.length
  | 0 => rfl
  | k + 1 => by show ((lowk L k).set k (lrow L k)).length = _; rw [List.length_set]; exact lowk_len L k
theorem getD_set {l : Rows} {i : Nat} {r : List D} (h : i < l.length) (k : Nat) : (l.set i r).getD k [] = if i = k then r else l.getD k [] := by
  rw [List.getD_eq_getElem?_getD, List.getD_eq_getElem?_getD, List.getElem?_set]
  by_cases e : i = k
  · subst e; rw [if_pos rfl, if_pos rfl, if_pos h]; rfl
  · rw [if_neg e, if_neg e]
theorem lowk_get (L : Rows) : ∀ k, k ≤ L.length → ∀ i, i < L.length → (lowk L k).getD i [] = if i < k then lrow L i else L.getD i []
  | 0, _, i, _ => by rw [if_neg (by omega)]; rfl
  | k + 1, hk, i, hi => by
    show ((lowk L k).set k (lrow L k)).getD i [] = _
    rw [getD_set (by rw [lowk_len]; omega), lowk_get L k (by omega) i hi]
    by_cases c : k = i
    · subst c; rw [if_pos rfl, if_pos (by omega)]
    · rw [if_neg c]
      by_cases d : i < k
      · rw [if_pos d, if_pos (by omega)]
      · rw [if_neg d, if_neg (by omega)]
theorem low_pb {L : Rows} (hL : Pb L) : Pb (lowk L L.length) ∧ Ps (lowk L L.length) := by
  have key : ∀ i, i < L.length → qs (lowk L L.length) i = qs L i ∧ qy (lowk L L.length) i = (qy L i).tmod 300 ∧ qw (lowk L L.length) i = qw L i ∧ qh (lowk L L.length) i = (qh L i).tmod 100 := fun i hi => by
    unfold qs qy qw qh
    rw [lowk_get L L.length (Nat.le_refl _) i hi, if_pos hi]
    exact ⟨rfl, rfl, rfl, rfl⟩
  refine ⟨fun i hi => ?_, fun i hi => ?_⟩
  · rw [lowk_len] at hi
    obtain ⟨b1, b2, b3, b4⟩ := hL i hi
    obtain ⟨e1, e2, e3, e4⟩ := key i hi
    have t1 := Int.tmod_nonneg 300 b2.1
    have t2 := Int.tmod_lt_of_pos (qy L i) (show (0 : Int) < 300 by omega)
    have t3 := Int.tmod_nonneg 100 b4.1
    have t4 := Int.tmod_lt_of_pos (qh L i) (show (0 : Int) < 100 by omega)
    rw [e1, e2, e3, e4]
    exact ⟨b1, by omega, b3, by omega⟩
  · rw [lowk_len] at hi
    obtain ⟨b1, b2, b3, b4⟩ := hL i hi
    obtain ⟨e1, e2, e3, e4⟩ := key i hi
    have t2 := Int.tmod_lt_of_pos (qy L i) (show (0 : Int) < 300 by omega)
    have t4 := Int.tmod_lt_of_pos (qh L i) (show (0 : Int) < 100 by omega)
    rw [e2, e4]
    exact ⟨by omega, by omega⟩
theorem pbw {L : Rows} (h : ∀ n ∈ L, rowWf [.int .u8, .int .u16, .int .u16, .int .u16] n) : Pb L := by
  intro i hi
  have hm : L.getD i [] ∈ L := by
    rw [List.getD_eq_getElem?_getD, List.getElem?_eq_getElem hi]; exact List.getElem_mem hi
  obtain ⟨a, ea, wa⟩ := (h _ hm).2 0 (.int .u8) rfl
  obtain ⟨b, eb, wb⟩ := (h _ hm).2 1 (.int .u16) rfl
  obtain ⟨c, ec, wc⟩ := (h _ hm).2 2 (.int .u16) rfl
  obtain ⟨d, ed, wd⟩ := (h _ hm).2 3 (.int .u16) rfl
  simp [Lit.wf, IntKind.min, IntKind.max, IntKind.signed, IntKind.bits] at wa wb wc wd
  unfold qs qy qw qh
  rw [ea, eb, ec, ed]
  exact ⟨⟨by show 0 ≤ a; omega, by show a ≤ 255; omega⟩, ⟨by show 0 ≤ b; omega, by show b ≤ 65535; omega⟩, ⟨by show 0 ≤ c; omega, by show c ≤ 65535; omega⟩, ⟨by show 0 ≤ d; omega, by show d ≤ 65535; omega⟩⟩
theorem wrapU16 (n : Int) (h : 0 ≤ n ∧ n ≤ 65535) : IntKind.u16.wrap n = n := by
  have : IntKind.u16.wrap n = n % 65536 := by simp [IntKind.wrap, IntKind.bits, IntKind.signed]
  rw [this]; omega
set_option maxHeartbeats 8000000 in
theorem law5 (L : Rows) (W n0 n1 n2 n3 : Int) (hl : List.length L ≤ 9223372036854775807) (hL : Pb L) (hW : 0 ≤ W ∧ W ≤ 65535) (hn0 : 0 ≤ n0 ∧ n0 ≤ 255) (hn1 : 0 ≤ n1 ∧ n1 ≤ 65535) (hn2 : 0 ≤ n2 ∧ n2 ≤ 65535) (hn3 : 0 ≤ n3 ∧ n3 ≤ 65535) : SemF Try.prog 5 [.slc 0 4 0 L.length, .int .u16 W, .agg [.int .u8 n0, .int .u16 n1, .int .u16 n2, .int .u16 n3]] ⟨1, 1, [(0, .arr [.int .u8, .int .u16, .int .u16, .int .u16] .ro (.recs L))]⟩ (fun v _ => IsTrue v) := by
  refine enter tt_ok Try.func5 (nt := 164) (cd := body Try.f5) rfl rfl rfl rfl ?_
  intro _
  refine head_ok rfl Try.func9 (cd := body Try.f9) rfl ?_
  intro _; refine ⟨fun g => ?_, fun g => ?_⟩
  · intro _
    show true = true
    rfl
  have g1 := of_decide_eq_false (show decide ((L.length : Int) > 20) = false from g)
  have h20 : L.length ≤ 20 := by omega
  have eW : W = IntKind.i64.wrap W := (wrapS _ ⟨by omega, by omega⟩).symm
  have etk : (L.drop 0).take L.length = L := by simp
  obtain ⟨hLl, hSl⟩ := low_pb hL
  have hll := lowk_len L L.length
  have h20l : (lowk L L.length).length ≤ 20 := by rw [hll]; exact h20
  have gd := Gd.all false hLl hW h20l (lowk L L.length).length (Nat.le_refl _)
  have near := Gd.near (m := false) hLl hSl hW h20l (lowk L L.length).length (Nat.le_refl _)
  obtain ⟨p, hp⟩ : ∃ p, p = pls (lowk L L.length) W false (lowk L L.length).length := ⟨_, rfl⟩
  have hV := gd.vd h20l hW
  have eln := gd.len
  rw [← hp] at near hV eln
  obtain ⟨s, hs⟩ : ∃ s, s = 1 + n0.tmod 2 := ⟨_, rfl⟩
  obtain ⟨y, hy⟩ : ∃ y, y = n1.tmod 300 := ⟨_, rfl⟩
  obtain ⟨h, hh⟩ : ∃ h, h = n3.tmod 100 := ⟨_, rfl⟩
  have a1 := Int.tmod_nonneg 2 hn0.1
  have a2 := Int.tmod_lt_of_pos n0 (show (0 : Int) < 2 by omega)
  have a3 := Int.tmod_nonneg 300 hn1.1
  have a4 := Int.tmod_lt_of_pos n1 (show (0 : Int) < 300 by omega)
  have a5 := Int.tmod_nonneg 100 hn3.1
  have a6 := Int.tmod_lt_of_pos n3 (show (0 : Int) < 100 by omega)
  have hyb : 0 ≤ y ∧ y ≤ 299 := by omega
  have hhb : 0 ≤ h ∧ h ≤ 99 := by omega
  have hsb : s = 1 ∨ s = 2 := by omega
  have hPv : Pv p W s y n2 h := ⟨hV, hsb, by omega, by omega, by omega⟩
  have hPA := pa_spec p W y n2 h
  obtain ⟨at0, hat⟩ : ∃ a, a = pa p W y n2 h := ⟨_, rfl⟩
  rw [← hat] at hPA
  have hmx := mx_bd (l := p) (y := y) (B := 2279) ⟨hyb.1, by omega⟩ p.length (fun k hk => by
    rw [eln] at hk
    have := near k hk
    obtain ⟨_, _, _, f4, f5⟩ := hV.2 k (by omega)
    omega)
  have hatb : 0 ≤ at0 ∧ at0 ≤ 2279 := by
    rcases hPA.1.1 with e | ⟨j, j1, e, j3⟩
    · rw [e]; exact hmx
    · rw [eln] at j1
      have := near j j1
      omega
  have hcg := cand_ge hPA.1.1
  have eP : pl p W s y n2 h = (p ++ [prow p W s at0 n2 h], 0) := pl_ok hPv (by omega) hPA (by omega)
  have eS : s = IntKind.i64.wrap (1 + (IntKind.i64.wrap n0).tmod 2) := by rw [wrapS n0 ⟨by omega, by omega⟩, wrapS _ ⟨by omega, by omega⟩]; exact hs
  have eY : y = IntKind.i64.wrap (n1.tmod 300) := by rw [wrapS _ ⟨by omega, by omega⟩]; exact hy
  have eN : n2 = IntKind.i64.wrap n2 := (wrapS _ ⟨by omega, by omega⟩).symm
  have eH : h = IntKind.i64.wrap (n3.tmod 100) := by rw [wrapS _ ⟨by omega, by omega⟩]; exact hh
  have eQl : (pl p W s y n2 h).1.length = p.length + 1 := by rw [eP, List.length_append]; rfl
  have eQy : fy (pl p W s y n2 h).1 p.length = at0 := by rw [eP]; exact (prow_get p W s at0 n2 h).2.2.1
  have eQr : ∀ i, i < p.length → p.getD i [] = (pl p W s y n2 h).1.getD i [] := fun i hi => by rw [eP]; exact (app_get hi).symm
  intro _; refine ⟨show 0 + L.length ≤ L.length by omega, ?_⟩
  intro _; refine ⟨fun g3 => ?_, fun g3 => ?_⟩
  · have hl0 : L.length = 0 := Nat.eq_of_beq_eq_true g3
    have hlE : L = [] := List.length_eq_zero_iff.1 hl0
    intro _
    refine loop2 tt_ok [9] [2] 3 (fun k : { k : Nat // k ≤ L.length } => [(9, .int .i64 (k.1 : Nat))]) (fun k => [(2, .arr [.int .u8, .int .u16, .int .u16, .int .u16] .own (.recs (lowk L k.1)))]) (fun k => L.length - k.1) ⟨0, by omega⟩ ?_
    intro _
    refine ⟨⟨th [] 3, rfl, rfl, rfl, rfl, rfl, rfl, ?_, ?_⟩, ?_⟩
    · (repeat' first | exact trivial | exact rfl | refine And.intro ?_ ?_)
    · (repeat' first | exact trivial | exact rfl | refine And.intro ?_ ?_)
      exact hlE
    intro ⟨k, hk⟩
    intro _; refine ⟨fun g => ?_, fun g => ?_⟩
    · have hkl := of_decide_eq_true (show decide ((k : Int) < (((0 : Nat) : Int) : Int)) = true from g)
      omega
    have hkl := of_decide_eq_false (show decide ((k : Int) < (((0 : Nat) : Int) : Int)) = false from g)
    obtain rfl : k = L.length := by omega
    intro _
    refine call_new [(0, some 2)] (placed_ok (lowk L L.length) W false hLl hW h20l) rfl rfl rfl rfl ?_ ?_ ?_
    · (repeat' first | exact trivial | exact rfl | refine And.intro ?_ ?_)
    · (repeat' first | exact trivial | exact rfl | refine And.intro ?_ ?_)
      show (lowk L L.length).length = 0
      omega
      exact eW
    intro v h' hv
    obtain ⟨rfl, rfl⟩ := hv
    refine ⟨[(3, some 1)], 4, [(3, .arr [.int .i64, .int .i64, .int .i64, .int .i64, .int .i64] .grow (.recs (pls (lowk L L.length) W false (lowk L L.length).length)))], .tup [.grw 3 (pls (lowk L L.length) W false (lowk L L.length).length).length, .bool true], rfl, rfl, rfl, rfl, rfl, ?_, ?_, ?_⟩
    · (repeat' first | exact trivial | exact rfl | refine And.intro ?_ ?_)
    · (repeat' first | exact trivial | exact rfl | refine And.intro ?_ ?_)
    rw [← hp]
    intro _; refine ⟨by decide, ?_⟩
    intro _; refine ⟨by decide, ?_⟩
    intro _; refine ⟨by kernel_rfl, ?_⟩
    intro _; refine ⟨by decide, ?_⟩
    intro _
    refine call_new [(0, some 3)] (place_ok p W s y n2 h (by omega)) rfl rfl rfl rfl ?_ ?_ ?_
    · (repeat' first | exact trivial | exact rfl | refine And.intro ?_ ?_)
    · (repeat' first | exact trivial | exact rfl | refine And.intro ?_ ?_)
      exact eW
      exact eS
      exact eY
      exact eN
      exact eH
    intro v h' hv
    obtain ⟨rfl, rfl⟩ := hv
    refine ⟨[(4, some 1)], 5, [(4, .arr [.int .i64, .int .i64, .int .i64, .int .i64, .int .i64] .grow (.recs (pl p W s y n2 h).1))], .tup [.grw 4 (pl p W s y n2 h).1.length, .int .i64 (pl p W s y n2 h).2], rfl, rfl, rfl, rfl, rfl, ?_, ?_, ?_⟩
    · (repeat' first | exact trivial | exact rfl | refine And.intro ?_ ?_)
    · (repeat' first | exact trivial | exact rfl | refine And.intro ?_ ?_)
    intro _; refine ⟨fun g => ?_, fun g => ?_⟩
    · exfalso
      have g : ((pl p W s y n2 h).2 != 0) = true := g
      rw [eP] at g; cases g
    intro _; refine ⟨fun g => ?_, fun g => ?_⟩
    · exfalso
      have g : (((pl p W s y n2 h).1.length : Int) != IntKind.i64.wrap ((p.length : Int) + 1)) = true := g
      rw [eQl, wrap_nat p.length (by omega)] at g
      simp at g
    intro _; refine ⟨show 0 ≤ (p.length : Int) ∧ (p.length : Int) < ((pl p W s y n2 h).1.length : Int) by omega, ?_⟩
    intro _; refine ⟨show (p.length : Int).toNat < (pl p W s y n2 h).1.length by omega, ?_⟩
    intro _
    refine loop2 tt_ok [20, 19] [] 6 (fun k : { k : Nat // k ≤ p.length } => [(20, .int .i64 (k.1 : Nat)), (19, .int .i64 (mx p y k.1))]) (fun _ => []) (fun k => p.length - k.1) ⟨0, by omega⟩ ?_
    intro _
    refine ⟨⟨th [] 6, rfl, rfl, rfl, rfl, rfl, rfl, ?_, ?_⟩, ?_⟩
    · (repeat' first | exact trivial | exact rfl | refine And.intro ?_ ?_)
      exact eY
    · (repeat' first | exact trivial | exact rfl | refine And.intro ?_ ?_)
    intro ⟨k, hk⟩
    intro _; refine ⟨fun g => ?_, fun g => ?_⟩
    · have hkl := of_decide_eq_true (show decide ((k : Int) < (p.length : Int)) = true from g)
      intro _; refine ⟨show 0 ≤ (k : Int) ∧ (k : Int) < (p.length : Int) by omega, ?_⟩
      intro _; refine ⟨show (k : Int).toNat < p.length by omega, ?_⟩
      refine ⟨⟨k + 1, by omega⟩, by show p.length - (k + 1) < p.length - k; omega, th [] 6, rfl, rfl, rfl, rfl, rfl, rfl, ?_, ?_⟩
      · (repeat' first | exact trivial | exact rfl | refine And.intro ?_ ?_)
        exact (wrap_nat k (by omega)).symm
      · (repeat' first | exact trivial | exact rfl | refine And.intro ?_ ?_)
    have hkl := of_decide_eq_false (show decide ((k : Int) < (p.length : Int)) = false from g)
    obtain rfl : k = p.length := by omega
    have eQv : fy (pl p W s y n2 h).1 (p.length : Int).toNat = at0 := eQy
    intro _; refine ⟨fun g => ?_, fun g => ?_⟩
    · exfalso
      have g := of_decide_eq_true (show decide (fy (pl p W s y n2 h).1 (p.length : Int).toNat < mx p y p.length) = true from g)
      rw [eQv] at g
      omega
    intro _; refine ⟨fun g => ?_, fun g => ?_⟩
    · exfalso
      have g := of_decide_eq_true (show decide (fy (pl p W s y n2 h).1 (p.length : Int).toNat > 5000) = true from g)
      rw [eQv] at g
      omega
    intro _; refine ⟨show (0 : Int) ≤ 0 ∧ (0 : Int) ≤ (p.length : Int) ∧ (p.length : Int) ≤ ((pl p W s y n2 h).1.length : Int) ∧ ((0 : Int) < ((pl p W s y n2 h).1.length : Int) ∨ (0 : Int) = 0) by omega, ?_⟩
    intro _
    refine call_pure [(0, some 3), (1, some 4)] (same_ok p (pl p W s y n2 h).1 p.length (by omega) (Nat.le_refl _) (by omega) eQr) rfl rfl rfl ?_ ?_ ?_
    · (repeat' first | exact trivial | exact rfl | refine And.intro ?_ ?_)
    · (repeat' first | exact trivial | exact rfl | refine And.intro ?_ ?_)
    intro v hv _
    subst hv
    intro _; refine ⟨fun g => (Bool.noConfusion (show false = true from g)), fun _ => ?_⟩
    intro _
    refine call_pure [(0, some 3)] (free_ok p W at0 n2 h hV (by omega) (by omega)) rfl rfl rfl ?_ ?_ ?_
    · (repeat' first | exact trivial | exact rfl | refine And.intro ?_ ?_)
    · (repeat' first | exact trivial | exact rfl | refine And.intro ?_ ?_)
      exact eW
      exact eQv.symm
      exact eN
      exact eH
    intro v hv _
    subst hv
    intro _; refine ⟨fun g => ?_, fun g => ?_⟩
    · exfalso
      have g : (!decide (FreeAt p W at0 n2 h)) = true := g
      rw [decide_eq_true hPA.1.2] at g; cases g
    intro _
    refine loop2 tt_ok [21] [] 6 (fun j : { j : Nat // (j : Int) ≤ at0 - mx p y p.length } => [(21, .int .i64 (mx p y p.length + (j.1 : Nat)))]) (fun _ => []) (fun j => (at0 - mx p y p.length).toNat - j.1) ⟨0, by omega⟩ ?_
    intro _
    refine ⟨⟨th [] 6, rfl, rfl, rfl, rfl, rfl, rfl, ?_, ?_⟩, ?_⟩
    · (repeat' first | exact trivial | exact rfl | refine And.intro ?_ ?_)
      show mx p y p.length + ((0 : Nat) : Int) = mx p y p.length
      omega
    · (repeat' first | exact trivial | exact rfl | refine And.intro ?_ ?_)
    intro ⟨j, hj⟩
    intro _; refine ⟨fun g => ?_, fun g => ?_⟩
    rotate_left
    · intro _
      show true = true
      rfl
    have g := of_decide_eq_true (show decide (mx p y p.length + (j : Int) < fy (pl p W s y n2 h).1 (p.length : Int).toNat) = true from g)
    rw [eQv] at g
    intro _
    refine call_pure [(0, some 3)] (free_ok p W (mx p y p.length + (j : Int)) n2 h hV (by omega) (by omega)) rfl rfl rfl ?_ ?_ ?_
    · (repeat' first | exact trivial | exact rfl | refine And.intro ?_ ?_)
    · (repeat' first | exact trivial | exact rfl | refine And.intro ?_ ?_)
      exact eW
      exact eN
      exact eH
    intro v hv _
    subst hv
    intro _; refine ⟨fun g => ?_, fun g => ?_⟩
    · exfalso
      have g2 := of_decide_eq_true (show decide (FreeAt p W (mx p y p.length + (j : Int)) n2 h) = true from g)
      exact high_no hPA (by omega) (by omega) g2
    refine ⟨⟨j + 1, by omega⟩, by show (at0 - mx p y p.length).toNat - (j + 1) < (at0 - mx p y p.length).toNat - j; omega, th [] 6, rfl, rfl, rfl, rfl, rfl, rfl, ?_, ?_⟩
    · (repeat' first | exact trivial | exact rfl | refine And.intro ?_ ?_)
      show mx p y p.length + ((j + 1 : Nat) : Int) = IntKind.i64.wrap (mx p y p.length + (j : Int) + 1)
      rw [wrapS _ ⟨by omega, by omega⟩]; omega
    · (repeat' first | exact trivial | exact rfl | refine And.intro ?_ ?_)
  refine ⟨⟨rfl, by show 0 + L.length ≤ _; omega, by show (0 + L.length) * 8 ≤ _; omega⟩, ?_⟩
  intro _
  refine loop2 tt_ok [9] [3] 4 (fun k : { k : Nat // k ≤ L.length } => [(9, .int .i64 (k.1 : Nat))]) (fun k => [(3, .arr [.int .u8, .int .u16, .int .u16, .int .u16] .grow (.recs (lowk L k.1)))]) (fun k => L.length - k.1) ⟨0, by omega⟩ ?_
  intro _
  refine ⟨⟨th [] 4, rfl, rfl, rfl, rfl, rfl, rfl, ?_, ?_⟩, ?_⟩
  · (repeat' first | exact trivial | exact rfl | refine And.intro ?_ ?_)
  · (repeat' first | exact trivial | exact rfl | refine And.intro ?_ ?_)
    exact etk.symm
  intro ⟨k, hk⟩
  intro _; refine ⟨fun g => ?_, fun g => ?_⟩
  · have hkl := of_decide_eq_true (show decide ((k : Int) < (((0 + L.length : Nat) : Int) : Int)) = true from g)
    have i1 : 0 ≤ (k : Int) ∧ (k : Int) < ((0 + L.length : Nat) : Int) := by omega
    have i2 : (k : Int).toNat < (lowk L k).length := by rw [lowk_len]; omega
    have hkn : k < L.length := by omega
    obtain ⟨b1, b2, b3, b4⟩ := hL k hkn
    have eg : (lowk L k).getD k [] = L.getD k [] := by rw [lowk_get L k hk k hkn, if_neg (by omega)]
    intro _; refine ⟨i1, ?_⟩
    intro _; refine ⟨i2, ?_⟩
    intro _; refine ⟨by decide, ?_⟩
    intro _; refine ⟨i1, ?_⟩
    intro _; refine ⟨i2, ?_⟩
    intro _; refine ⟨by decide, ?_⟩
    intro _; refine ⟨i1, ?_⟩
    intro _; refine ⟨i2, ?_⟩
    intro _; refine ⟨i1, ?_⟩
    intro _; refine ⟨show (k : Int).toNat < ((lowk L k).set _ _).length by rw [List.length_set]; exact i2, ?_⟩
    intro _; refine ⟨by kernel_rfl, ?_⟩
    obtain ⟨c, hc⟩ : ∃ c, c = lowk L k := ⟨_, rfl⟩
    have ec : lowk L (k + 1) = c.set k (lrow L k) := by rw [hc]; rfl
    rw [← hc] at eg i2
    have eX : ∀ r : List D, (c.set k r).getD k [] = r := fun r => by rw [getD_set (show k < c.length from i2), if_pos rfl]
    refine ⟨⟨k + 1, by omega⟩, by show L.length - (k + 1) < L.length - k; omega, th [] 4, rfl, rfl, rfl, rfl, rfl, rfl, ?_, ?_⟩
    · (repeat' first | exact trivial | exact rfl | refine And.intro ?_ ?_)
      exact (wrap_nat k (by omega)).symm
    · (repeat' first | exact trivial | exact rfl | refine And.intro ?_ ?_)
      show lowk L (k + 1) = List.set (List.set (lowk L k) k [((lowk L k).getD k []).getD 0 (D.n 0), D.n (((((lowk L k).getD k []).getD 1 (D.n 0)).int).tmod 300), ((lowk L k).getD k []).getD 2 (D.n 0), ((lowk L k).getD k []).getD 3 (D.n 0)]) k [((List.set (lowk L k) k [((lowk L k).getD k []).getD 0 (D.n 0), D.n (((((lowk L k).getD k []).getD 1 (D.n 0)).int).tmod 300), ((lowk L k).getD k []).getD 2 (D.n 0), ((lowk L k).getD k []).getD 3 (D.n 0)]).getD k []).getD 0 (D.n 0), ((List.set (lowk L k) k [((lowk L k).getD k []).getD 0 (D.n 0), D.n (((((lowk L k).getD k []).getD 1 (D.n 0)).int).tmod 300), ((lowk L k).getD k []).getD 2 (D.n 0), ((lowk L k).getD k []).getD 3 (D.n 0)]).getD k []).getD 1 (D.n 0), ((List.set (lowk L k) k [((lowk L k).getD k []).getD 0 (D.n 0), D.n (((((lowk L k).getD k []).getD 1 (D.n 0)).int).tmod 300), ((lowk L k).getD k []).getD 2 (D.n 0), ((lowk L k).getD k []).getD 3 (D.n 0)]).getD k []).getD 2 (D.n 0), D.n (((((lowk L k).getD k []).getD 3 (D.n 0)).int).tmod 100)]
      rw [← hc, eX, List.set_set, eg, ec]
      rfl
  have hkl := of_decide_eq_false (show decide ((k : Int) < (((0 + L.length : Nat) : Int) : Int)) = false from g)
  obtain rfl : k = L.length := by omega
  intro _
  refine call_new [(0, some 3)] (placed_ok (lowk L L.length) W false hLl hW h20l) rfl rfl rfl rfl ?_ ?_ ?_
  · (repeat' first | exact trivial | exact rfl | refine And.intro ?_ ?_)
  · (repeat' first | exact trivial | exact rfl | refine And.intro ?_ ?_)
    show (lowk L L.length).length = 0 + L.length
    omega
    exact eW
  intro v h' hv
  obtain ⟨rfl, rfl⟩ := hv
  refine ⟨[(4, some 1)], 5, [(4, .arr [.int .i64, .int .i64, .int .i64, .int .i64, .int .i64] .grow (.recs (pls (lowk L L.length) W false (lowk L L.length).length)))], .tup [.grw 4 (pls (lowk L L.length) W false (lowk L L.length).length).length, .bool true], rfl, rfl, rfl, rfl, rfl, ?_, ?_, ?_⟩
  · (repeat' first | exact trivial | exact rfl | refine And.intro ?_ ?_)
  · (repeat' first | exact trivial | exact rfl | refine And.intro ?_ ?_)
  rw [← hp]
  intro _; refine ⟨by decide, ?_⟩
  intro _; refine ⟨by decide, ?_⟩
  intro _; refine ⟨by kernel_rfl, ?_⟩
  intro _; refine ⟨by decide, ?_⟩
  intro _
  refine call_new [(0, some 4)] (place_ok p W s y n2 h (by omega)) rfl rfl rfl rfl ?_ ?_ ?_
  · (repeat' first | exact trivial | exact rfl | refine And.intro ?_ ?_)
  · (repeat' first | exact trivial | exact rfl | refine And.intro ?_ ?_)
    exact eW
    exact eS
    exact eY
    exact eN
    exact eH
  intro v h' hv
  obtain ⟨rfl, rfl⟩ := hv
  refine ⟨[(5, some 1)], 6, [(5, .arr [.int .i64, .int .i64, .int .i64, .int .i64, .int .i64] .grow (.recs (pl p W s y n2 h).1))], .tup [.grw 5 (pl p W s y n2 h).1.length, .int .i64 (pl p W s y n2 h).2], rfl, rfl, rfl, rfl, rfl, ?_, ?_, ?_⟩
  · (repeat' first | exact trivial | exact rfl | refine And.intro ?_ ?_)
  · (repeat' first | exact trivial | exact rfl | refine And.intro ?_ ?_)
  intro _; refine ⟨fun g => ?_, fun g => ?_⟩
  · exfalso
    have g : ((pl p W s y n2 h).2 != 0) = true := g
    rw [eP] at g; cases g
  intro _; refine ⟨fun g => ?_, fun g => ?_⟩
  · exfalso
    have g : (((pl p W s y n2 h).1.length : Int) != IntKind.i64.wrap ((p.length : Int) + 1)) = true := g
    rw [eQl, wrap_nat p.length (by omega)] at g
    simp at g
  intro _; refine ⟨show 0 ≤ (p.length : Int) ∧ (p.length : Int) < ((pl p W s y n2 h).1.length : Int) by omega, ?_⟩
  intro _; refine ⟨show (p.length : Int).toNat < (pl p W s y n2 h).1.length by omega, ?_⟩
  intro _
  refine loop2 tt_ok [20, 19] [] 7 (fun k : { k : Nat // k ≤ p.length } => [(20, .int .i64 (k.1 : Nat)), (19, .int .i64 (mx p y k.1))]) (fun _ => []) (fun k => p.length - k.1) ⟨0, by omega⟩ ?_
  intro _
  refine ⟨⟨th [] 7, rfl, rfl, rfl, rfl, rfl, rfl, ?_, ?_⟩, ?_⟩
  · (repeat' first | exact trivial | exact rfl | refine And.intro ?_ ?_)
    exact eY
  · (repeat' first | exact trivial | exact rfl | refine And.intro ?_ ?_)
  intro ⟨k, hk⟩
  intro _; refine ⟨fun g => ?_, fun g => ?_⟩
  · have hkl := of_decide_eq_true (show decide ((k : Int) < (p.length : Int)) = true from g)
    intro _; refine ⟨show 0 ≤ (k : Int) ∧ (k : Int) < (p.length : Int) by omega, ?_⟩
    intro _; refine ⟨show (k : Int).toNat < p.length by omega, ?_⟩
    refine ⟨⟨k + 1, by omega⟩, by show p.length - (k + 1) < p.length - k; omega, th [] 7, rfl, rfl, rfl, rfl, rfl, rfl, ?_, ?_⟩
    · (repeat' first | exact trivial | exact rfl | refine And.intro ?_ ?_)
      exact (wrap_nat k (by omega)).symm
    · (repeat' first | exact trivial | exact rfl | refine And.intro ?_ ?_)
  have hkl := of_decide_eq_false (show decide ((k : Int) < (p.length : Int)) = false from g)
  obtain rfl : k = p.length := by omega
  have eQv : fy (pl p W s y n2 h).1 (p.length : Int).toNat = at0 := eQy
  intro _; refine ⟨fun g => ?_, fun g => ?_⟩
  · exfalso
    have g := of_decide_eq_true (show decide (fy (pl p W s y n2 h).1 (p.length : Int).toNat < mx p y p.length) = true from g)
    rw [eQv] at g
    omega
  intro _; refine ⟨fun g => ?_, fun g => ?_⟩
  · exfalso
    have g := of_decide_eq_true (show decide (fy (pl p W s y n2 h).1 (p.length : Int).toNat > 5000) = true from g)
    rw [eQv] at g
    omega
  intro _; refine ⟨show (0 : Int) ≤ 0 ∧ (0 : Int) ≤ (p.length : Int) ∧ (p.length : Int) ≤ ((pl p W s y n2 h).1.length : Int) ∧ ((0 : Int) < ((pl p W s y n2 h).1.length : Int) ∨ (0 : Int) = 0) by omega, ?_⟩
  intro _
  refine call_pure [(0, some 4), (1, some 5)] (same_ok p (pl p W s y n2 h).1 p.length (by omega) (Nat.le_refl _) (by omega) eQr) rfl rfl rfl ?_ ?_ ?_
  · (repeat' first | exact trivial | exact rfl | refine And.intro ?_ ?_)
  · (repeat' first | exact trivial | exact rfl | refine And.intro ?_ ?_)
  intro v hv _
  subst hv
  intro _; refine ⟨fun g => (Bool.noConfusion (show false = true from g)), fun _ => ?_⟩
  intro _
  refine call_pure [(0, some 4)] (free_ok p W at0 n2 h hV (by omega) (by omega)) rfl rfl rfl ?_ ?_ ?_
  · (repeat' first | exact trivial | exact rfl | refine And.intro ?_ ?_)
  · (repeat' first | exact trivial | exact rfl | refine And.intro ?_ ?_)
    exact eW
    exact eQv.symm
    exact eN
    exact eH
  intro v hv _
  subst hv
  intro _; refine ⟨fun g => ?_, fun g => ?_⟩
  · exfalso
    have g : (!decide (FreeAt p W at0 n2 h)) = true := g
    rw [decide_eq_true hPA.1.2] at g; cases g
  intro _
  refine loop2 tt_ok [21] [] 7 (fun j : { j : Nat // (j : Int) ≤ at0 - mx p y p.length } => [(21, .int .i64 (mx p y p.length + (j.1 : Nat)))]) (fun _ => []) (fun j => (at0 - mx p y p.length).toNat - j.1) ⟨0, by omega⟩ ?_
  intro _
  refine ⟨⟨th [] 7, rfl, rfl, rfl, rfl, rfl, rfl, ?_, ?_⟩, ?_⟩
  · (repeat' first | exact trivial | exact rfl | refine And.intro ?_ ?_)
    show mx p y p.length + ((0 : Nat) : Int) = mx p y p.length
    omega
  · (repeat' first | exact trivial | exact rfl | refine And.intro ?_ ?_)
  intro ⟨j, hj⟩
  intro _; refine ⟨fun g => ?_, fun g => ?_⟩
  rotate_left
  · intro _
    show true = true
    rfl
  have g := of_decide_eq_true (show decide (mx p y p.length + (j : Int) < fy (pl p W s y n2 h).1 (p.length : Int).toNat) = true from g)
  rw [eQv] at g
  intro _
  refine call_pure [(0, some 4)] (free_ok p W (mx p y p.length + (j : Int)) n2 h hV (by omega) (by omega)) rfl rfl rfl ?_ ?_ ?_
  · (repeat' first | exact trivial | exact rfl | refine And.intro ?_ ?_)
  · (repeat' first | exact trivial | exact rfl | refine And.intro ?_ ?_)
    exact eW
    exact eN
    exact eH
  intro v hv _
  subst hv
  intro _; refine ⟨fun g => ?_, fun g => ?_⟩
  · exfalso
    have g2 := of_decide_eq_true (show decide (FreeAt p W (mx p y p.length + (j : Int)) n2 h) = true from g)
    exact high_no hPA (by omega) (by omega) g2
  refine ⟨⟨j + 1, by omega⟩, by show (at0 - mx p y p.length).toNat - (j + 1) < (at0 - mx p y p.length).toNat - j; omega, th [] 7, rfl, rfl, rfl, rfl, rfl, rfl, ?_, ?_⟩
  · (repeat' first | exact trivial | exact rfl | refine And.intro ?_ ?_)
    show mx p y p.length + ((j + 1 : Nat) : Int) = IntKind.i64.wrap (mx p y p.length + (j : Int) + 1)
    rw [wrapS _ ⟨by omega, by omega⟩]; omega
  · (repeat' first | exact trivial | exact rfl | refine And.intro ?_ ?_)

theorem agg_cv {n : Nat} {ν : Nu} {vs : List V} {as' : List Go.Vm.AV} (h : Cvs n ν vs as') : Cv n ν (.agg vs) (.agg as') := by
  simp only [Cv]; exact ⟨as', rfl, h⟩
def fieldsSt (P : Program) : Nat → List Field → List TypeId → Bool
  | _, [], [] => true
  | j, f :: fs, u :: us => Nat.beq f.offset j && Nat.beq (P.cellsOf f.type) 1 && Nat.beq f.type u && fieldsSt P (j + 1) fs us
  | _, _, _ => false
theorem fieldsSt_get {P : Program} : ∀ {fs : List Field} {ts : List TypeId} {j0 : Nat}, fieldsSt P j0 fs ts = true → ∀ (j : Nat) (u : TypeId), ts[j]? = some u → ∃ f, fs[j]? = some f ∧ f.offset = j0 + j ∧ P.cellsOf f.type = 1 ∧ f.type = u
  | [], [], _, _ => fun j u e => by simp at e
  | [], _ :: _, _, h => by simp [fieldsSt] at h
  | _ :: _, [], _, h => by simp [fieldsSt] at h
  | f :: fs, u :: us, j0, h => by
    simp only [fieldsSt, Bool.and_eq_true] at h
    obtain ⟨⟨⟨h1, h2⟩, h3⟩, h4⟩ := h
    intro j u' e
    cases j with
    | zero =>
      simp at e; subst e
      exact ⟨f, rfl, Nat.eq_of_beq_eq_true h1, Nat.eq_of_beq_eq_true h2, Nat.eq_of_beq_eq_true h3⟩
    | succ j =>
      simp at e
      obtain ⟨f', e1, e2, e3⟩ := fieldsSt_get h4 j u' e
      exact ⟨f', by simpa using e1, by rw [e2]; omega, e3⟩
theorem open_st {H : Type} {enc : TypeId × Value → H} {P : Program} {w : World} {base : Nat} {spare : Nat → Bool} {held : Bool} {r : Reach} {t : TypeId} {fs : Array Field} {ts : List TypeId} {v : Value} {d : DataW H} {p : List MemPlace} (ht : P.underlying t = some (.struct fs)) (hts : P.cellTypes P.depth t = some ts) (hC : P.cellsOf t = ts.length) (hf : fieldsSt P 0 fs.toList ts = true)
    (hval : Value.okWide P w r base t v) (h : DataW.Trod enc P w 0 spare held t v d p) :
    ∃ cs : Array Value, v = .agg cs ∧ cs.size = ts.length ∧ ∀ (j : Nat) (u : TypeId), ts[j]? = some u → ∃ x d' p' fuel, cs[j]? = some x ∧ Cell.okWide P w r base u x ∧ DataW.trod enc P w 0 spare held fuel u [x] = some (d', p') := by
  unfold Value.okWide at hval
  rw [ht] at hval
  obtain ⟨cs, rfl, hs, ts', ht', _, hk⟩ := hval
  rw [hts] at ht'
  simp only [Option.some.injEq] at ht'
  subst ht'
  obtain ⟨fuel, h⟩ := h
  obtain ⟨xs, n, _, _, hl, hxl, hf'⟩ := DataW.trod_struct ht h
  refine ⟨cs, rfl, by rw [hs, hC], fun j u hu => ?_⟩
  obtain ⟨f, e1, e2, e3, rfl⟩ := fieldsSt_get hf j u hu
  have hj : j < ts.length := (List.getElem?_eq_some_iff.1 hu).1
  have hjc : j < cs.size := by rw [hs, hC]; exact hj
  obtain ⟨u', hu', hok⟩ := hk j cs[j] (by simp [hjc])
  rw [Nat.mod_eq_of_lt hj, hu] at hu'
  cases hu'
  have e4 := hf' j f (by simpa using e1)
  rw [e2, e3, Nat.zero_add] at e4
  have e5 : ((Value.agg cs).cells.toList.drop j).take 1 = [cs[j]] := by
    show (cs.toList.drop j).take 1 = _
    rw [List.drop_eq_getElem_cons (by simpa using hjc)]; simp
  rw [e5] at e4
  have hjf : j < fs.toList.length := (List.getElem?_eq_some_iff.1 e1).1
  have hjx : j < xs.length := by rw [hxl]; simpa using hjf
  rw [List.getElem?_eq_getElem hjx] at e4
  exact ⟨cs[j], xs[j].1, xs[j].2, n, by simp [hjc], hok, e4⟩
theorem walk (w : World) (v_q0 : Value) (s_q0 : Src) (q0 : List (List Go.Vm2.D)) (cap_q0 : Nat) (hk_q0 : s_q0.ks = [.int .u8, .int .u16, .int .u16, .int .u16]) (ha_q0 : s_q0.ac = .recs q0) (hs_q0 : s_q0.lies w) (hn_q0 : s_q0.at_ = none → q0.length = 0) (hc_q0 : q0.length ≤ cap_q0) (hv_q0 : v_q0 = s_q0.val cap_q0) (hm_q0 : q0.length ≤ maxLen) (w_q0 : ∀ n ∈ q0, rowWf [.int .u8, .int .u16, .int .u16, .int .u16] n) (wd : Int) (w_wd : (Lit.int .u16 wd).wf = true) (n0 : Int) (w_n0 : (Lit.int .u8 n0).wf = true) (n1 : Int) (w_n1 : (Lit.int .u16 n1).wf = true) (n2 : Int) (w_n2 : (Lit.int .u16 n2).wf = true) (n3 : Int) (w_n3 : (Lit.int .u16 n3).wf = true) :
    Calls Try.prog 5 #[v_q0, .int .u16 wd, .agg #[.int .u8 n0, .int .u16 n1, .int .u16 n2, .int .u16 n3]] w fun e w' => e = .returned (.bool true) ∧ Below w.heap.size w w' := by
  obtain ⟨at_q0, ks_q0, ac_q0⟩ := s_q0
  simp only [] at hk_q0 ha_q0
  subst hk_q0 ha_q0
  have h_q0 : q0.length ≤ 9223372036854775807 := by unfold maxLen at hm_q0; omega
  have b_wd := w_wd
  simp [Lit.wf, IntKind.min, IntKind.max, IntKind.signed, IntKind.bits] at b_wd
  have b_n0 := w_n0
  simp [Lit.wf, IntKind.min, IntKind.max, IntKind.signed, IntKind.bits] at b_n0
  have b_n1 := w_n1
  simp [Lit.wf, IntKind.min, IntKind.max, IntKind.signed, IntKind.bits] at b_n1
  have b_n2 := w_n2
  simp [Lit.wf, IntKind.min, IntKind.max, IntKind.signed, IntKind.bits] at b_n2
  have b_n3 := w_n3
  simp [Lit.wf, IntKind.min, IntKind.max, IntKind.signed, IntKind.bits] at b_n3
  exact top_run (by kernel_rfl) (by kernel_rfl) (T := [9]) (fun f hf w => by
      rcases List.mem_cons.1 hf with e | e
      · subst e; exact head w
      · exact (List.not_mem_nil e).elim) (l := [⟨at_q0, [.int .u8, .int .u16, .int .u16, .int .u16], .recs q0⟩]) (args := [.slc 0 4 0 q0.length, .int .u16 wd, .agg [.int .u8 n0, .int .u16 n1, .int .u16 n2, .int .u16 n3]]) («as» := [Src.av 0 cap_q0 ⟨at_q0, [.int .u8, .int .u16, .int .u16, .int .u16], .recs q0⟩, .int .u16 wd, .agg [.int .u8 n0, .int .u16 n1, .int .u16 n2, .int .u16 n3]]) (cargs := [v_q0, .int .u16 wd, .agg #[.int .u8 n0, .int .u16 n1, .int .u16 n2, .int .u16 n3]]) w
    (fun s h => by
      rcases List.mem_cons.1 h with e | h
      · subst e; exact hs_q0
      · exact (List.not_mem_nil h).elim)
    (Cvs.cons (src_cv (s := ⟨at_q0, [.int .u8, .int .u16, .int .u16, .int .u16], .recs q0⟩) rfl 4 hc_q0 hn_q0) (Cvs.cons mk_int (Cvs.cons (agg_cv (Cvs.cons mk_int (Cvs.cons mk_int (Cvs.cons mk_int (Cvs.cons mk_int Cvs.nil))))) Cvs.nil)))
    (by simp only [Go.Vm.convs, Go.Vm.conv]; rw [src_conv (j := 0) (s := ⟨at_q0, [.int .u8, .int .u16, .int .u16, .int .u16], .recs q0⟩) rfl]; subst hv_q0; rfl)
    (law5 q0 wd n0 n1 n2 n3 h_q0 (pbw w_q0) (by omega) (by omega) (by omega) (by omega) (by omega))

set_option maxRecDepth 100000 in
theorem lifted (os : Os) (started : os.Started) (H : Type) (enc : TypeId × Value → H) :
    ReturnsInHanded {} Try.checked os 5 .any (Rows.floatsHighSpec.pre6 enc Try.prog Try.f5 Rows.floatsHighRow.domain false) (Rows.floatsHighSpec.post enc Try.prog Try.f5 false true false false) := by
  refine returnsInHanded_of_change (C := Try.checked) own started (by kernel_rfl) Try.func5
    (ChangeSpec.witness6 (enc := enc) (C := Try.checked) false ⟨#[], #[.slice none 0 0, .int .u16 0, .agg #[.int .u8 0, .int .u16 0, .int .u16 0, .int .u16 0]], []⟩ 8 (by kernel_rfl) (by kernel_rfl) (by kernel_rfl) (by kernel_rfl)) ?_
  intro W base args ds gs before hval0 hW hcnd _
  have hval : ∀ (j : Nat) t v, Try.f5.params[j]? = some t → args[j]? = some v → Value.okWide Try.prog W .any base t v := hval0
  have hW' := hW
  obtain ⟨p, q, hA0, hV, rfl, hfz, hnd⟩ := hW
  have hA : DataW.TrodAll enc Try.prog W 0 (fun _ => true) true Try.f5.params.toList args.toList ds p := hA0
  rw [Try.params5] at hA hval
  obtain ⟨v0, vs0, d0, ds0, p0, q0, hargs, rfl, rfl, h0, r0⟩ := trodAll_cons hA
  obtain ⟨v1, vs1, d1, ds1, p1, q1, rfl, rfl, rfl, h1, r1⟩ := trodAll_cons r0
  obtain ⟨v2, vs2, d2, ds2, p2, q2, rfl, rfl, rfl, h2, r2⟩ := trodAll_cons r1
  obtain ⟨rfl, rfl, rfl⟩ := trodAll_nil r2
  obtain rfl : args = #[v0, v1, v2] := by cases args; simp_all
  obtain ⟨rfl, rfl⟩ := trodVars_none hV
  obtain ⟨s_q0, q0, cap_q0, hk_q0, ha_q0, hs_q0, hn_q0, hc_q0, hv_q0, hm_q0, w_q0⟩ := Go.Vm2.open_recs (ks := [.int .u8, .int .u16, .int .u16, .int .u16]) Try.underlying36 Try.underlying43 (by kernel_rfl) (by simp) (by kernel_rfl) (hval 0 36 v0 rfl rfl) h0
  have hlt0 : ∀ x ∈ p0, x.block < W.heap.size := fun x hx => by simpa using hW'.lt x (by simp [hx])
  obtain ⟨wd, rfl, rfl, rfl, w_wd⟩ := open_int Try.underlying37 (hval 1 37 v1 rfl rfl) h1
  obtain ⟨cs_nx, rfl, hz_nx, hs_nx⟩ := open_st (ts := [5, 37, 37, 37]) Try.underlying43 (by kernel_rfl) (by kernel_rfl) (by kernel_rfl) (hval 2 43 v2 rfl rfl) h2
  have hlt2 : ∀ x ∈ p2, x.block < W.heap.size := fun x hx => by simpa using hW'.lt x (by simp [hx])
  obtain ⟨x_n0, d_n0, p_n0, fu_n0, hx_n0, hk0_n0, ht_n0⟩ := hs_nx 0 5 rfl
  have hkk_n0 : Value.okWide Try.prog W .any base 5 x_n0 := by unfold Value.okWide; rw [Try.underlying5]; exact hk0_n0
  obtain ⟨x_n1, d_n1, p_n1, fu_n1, hx_n1, hk0_n1, ht_n1⟩ := hs_nx 1 37 rfl
  have hkk_n1 : Value.okWide Try.prog W .any base 37 x_n1 := by unfold Value.okWide; rw [Try.underlying37]; exact hk0_n1
  obtain ⟨x_n2, d_n2, p_n2, fu_n2, hx_n2, hk0_n2, ht_n2⟩ := hs_nx 2 37 rfl
  have hkk_n2 : Value.okWide Try.prog W .any base 37 x_n2 := by unfold Value.okWide; rw [Try.underlying37]; exact hk0_n2
  obtain ⟨x_n3, d_n3, p_n3, fu_n3, hx_n3, hk0_n3, ht_n3⟩ := hs_nx 3 37 rfl
  have hkk_n3 : Value.okWide Try.prog W .any base 37 x_n3 := by unfold Value.okWide; rw [Try.underlying37]; exact hk0_n3
  have hcs_nx : cs_nx = #[x_n0, x_n1, x_n2, x_n3] := by
    refine Array.ext (by rw [hz_nx]; rfl) fun i h1 h2 => ?_
    have hi : i < 4 := by simpa using h2
    rcases i with _ | _ | _ | _ | i
    · have := hx_n0; rw [Array.getElem?_eq_getElem h1] at this; exact Option.some.inj this
    · have := hx_n1; rw [Array.getElem?_eq_getElem h1] at this; exact Option.some.inj this
    · have := hx_n2; rw [Array.getElem?_eq_getElem h1] at this; exact Option.some.inj this
    · have := hx_n3; rw [Array.getElem?_eq_getElem h1] at this; exact Option.some.inj this
    · omega
  subst hcs_nx
  obtain ⟨n0, hq_n0, _, w_n0⟩ := DataW.trod_int Try.underlying5 ht_n0
  simp only [List.cons.injEq, and_true] at hq_n0
  subst hq_n0
  obtain ⟨n1, hq_n1, _, w_n1⟩ := DataW.trod_int Try.underlying37 ht_n1
  simp only [List.cons.injEq, and_true] at hq_n1
  subst hq_n1
  obtain ⟨n2, hq_n2, _, w_n2⟩ := DataW.trod_int Try.underlying37 ht_n2
  simp only [List.cons.injEq, and_true] at hq_n2
  subst hq_n2
  obtain ⟨n3, hq_n3, _, w_n3⟩ := DataW.trod_int Try.underlying37 ht_n3
  simp only [List.cons.injEq, and_true] at hq_n3
  subst hq_n3
  clear hA0 hval0
  refine (walk W v0 s_q0 q0 cap_q0 hk_q0 ha_q0 hs_q0 hn_q0 hc_q0 hv_q0 hm_q0 w_q0 wd w_wd n0 w_n0 n1 w_n1 n2 w_n2 n3 w_n3).mono fun e W' ⟨he, hg⟩ => ?_
  subst he
  exact ⟨_, rfl, _, _, _, [], _, [], hW', trodAll_cons_mk (shut_bool Try.underlying4 _) trodAll_mk0, (trodAll_cons_mk (Below.trod laidOut (by kernel_rfl) (of_decide_eq_true (by kernel_rfl)) h0 hg hlt0) (trodAll_cons_mk (shut_int Try.underlying37 w_wd) (trodAll_cons_mk (Below.trod laidOut (by kernel_rfl) (of_decide_eq_true (by kernel_rfl)) h2 hg hlt2) trodAll_mk0))), rfl, hg.frame _, fun h => by cases h⟩

theorem over : Rows.floatsHighRow.holds Try.pinned (OpenSpec.ofChange Rows.floatsHighSpec) :=
  OpenClaim.holds_of_wide 5 Try.f5 rfl rfl rfl rfl rfl rfl rfl ⟨rfl, rfl, rfl, rfl, rfl⟩ rfl rfl rfl rfl rfl (by kernel_rfl) Try.func5 (by kernel_rfl)
    (of_decide_eq_true (by kernel_rfl)) (by unfold Func.isWrapper; first | (rw [if_pos (by decide +kernel)]; kernel_rfl) | (rw [if_neg (by decide +kernel)]; exact ⟨rfl, rfl⟩))
    (fun os started H enc _ => lifted os started H enc)

/-- the statement -/
theorem proved : Rows.FloatsHighSaid :=
  over
#print axioms proved
end Go.Proofs.Ytfkpnondknfmeaa.floatsHigh
