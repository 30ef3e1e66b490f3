/-
  SelectorLooser: whatever the arguments, the law returns true, and its arguments read as before. No conditions.
-/
import Derived.Test.YtmdobpjkcheneaaRows
import Derived.Test.YtmdobpjkcheneaaVwOpen2
import Derived.Test.YtmdobpjkcheneaaVwRules7
import Derived.Test.YtmdobpjkcheneaaVmFast3
import Derived.WalkKit
import Derived.ProofKit
import Derived.OpenShut
import Derived.Carry
import Derived.Test.YtmdobpjkcheneaaHead
import Derived.Laws.RangeAny
import Derived.Test.YtmdobpjkcheneaaTreA
import Derived.Test.YtmdobpjkcheneaaTreB
import Derived.Test.YtmdobpjkcheneaaTreC
namespace Go.Proofs.Ytmdobpjkcheneaa.selectorLooser
open Go.ChangeShapes Go.WideShapes Go.ChangeAt Go.RowKit
open Go.Vm (Facts Val Sound)
open Go.Vm2
set_option linter.unusedVariables false
set_option linter.unusedSectionVars false

open Go.Proofs.Ytmdobpjkcheneaa.selectorBegins
theorem own : ownKnob Try.prog.godebug = none := by kernel_rfl
theorem laidOut : laidOutB Try.prog = true := by kernel_rfl
set_option maxRecDepth 100000
theorem few_ok (l T : Rws) : SemF Try.prog 11 [.slc 0 5 0 l.length, .slc 1 4 0 T.length] ⟨2, 2, [(0, .arr [.int .i64, .int .i64, .int .i64, .int .i64, .str] .rd (.recs l)), (1, .arr [.int .i64, .int .i64, .int .i64, .bool] .rd (.recs T))]⟩ (fun v _ => v = .test (decide (l.length ≤ 40 ∧ T.length ≤ 20)) ∧ nameless v = true) := by
  refine SemF.test ?_
  refine enter tt_ok Try.func11 (nt := 13) (cd := body Try.f11) rfl rfl rfl rfl ?_
  intro _; refine ⟨fun g => ?_, fun g => ?_⟩
  rotate_left
  · have g := of_decide_eq_false (show decide ((l.length : Int) ≤ 40) = false from g)
    intro _
    exact ⟨false, .inl rfl, by rw [decide_eq_false (fun h : l.length ≤ 40 ∧ T.length ≤ 20 => by have := h.1; omega)], rfl⟩
  have g1 := of_decide_eq_true (show decide ((l.length : Int) ≤ 40) = true from g)
  intro _
  refine ⟨_, .inr rfl, ?_, rfl⟩
  have e : decide (l.length ≤ 40 ∧ T.length ≤ 20) = decide ((T.length : Int) ≤ 20) := decide_eq_decide.2 ⟨fun h => by have := h.2; omega, fun h => ⟨by omega, by omega⟩⟩
  rw [e]
theorem usable_ok (l T : Rws) (hl : l.length ≤ 9223372036854775807) (hl2 : T.length ≤ 9223372036854775807) (hs : ∀ i, i < l.length → (nt l i).length ≤ 9223372036854775807) : SemF Try.prog 21 [.slc 0 5 0 l.length, .slc 1 4 0 T.length] ⟨2, 2, [(0, .arr [.int .i64, .int .i64, .int .i64, .int .i64, .str] .rd (.recs l)), (1, .arr [.int .i64, .int .i64, .int .i64, .bool] .rd (.recs T))]⟩ (fun v _ => v = .test (decide ((l.length ≤ 40 ∧ T.length ≤ 20) ∧ RV l ∧ Tv T)) ∧ nameless v = true) := by
  refine SemF.test ?_
  refine enter tt_ok Try.func21 (nt := 16) (cd := body Try.f21) rfl rfl rfl rfl ?_
  intro _
  refine call_pure [(0, some 0), (1, some 1)] (few_ok l T) rfl rfl rfl ?_ ?_ ?_
  · (repeat' first | exact trivial | exact rfl | refine And.intro ?_ ?_)
  · (repeat' first | exact trivial | exact rfl | refine And.intro ?_ ?_)
  intro v hv _
  subst hv
  intro _; refine ⟨fun g => ?_, fun g => ?_⟩
  rotate_left
  · have g := of_decide_eq_false (show decide (l.length ≤ 40 ∧ T.length ≤ 20) = false from g)
    intro _
    exact ⟨false, .inl rfl, by rw [decide_eq_false (fun h : (l.length ≤ 40 ∧ T.length ≤ 20) ∧ RV l ∧ Tv T => g h.1)], rfl⟩
  have g1 := of_decide_eq_true (show decide (l.length ≤ 40 ∧ T.length ≤ 20) = true from g)
  intro _
  refine call_pure [(0, some 0)] (tree_ok l hl hs) rfl rfl rfl ?_ ?_ ?_
  · (repeat' first | exact trivial | exact rfl | refine And.intro ?_ ?_)
  · (repeat' first | exact trivial | exact rfl | refine And.intro ?_ ?_)
  intro v hv _
  subst hv
  intro _; refine ⟨fun g => ?_, fun g => ?_⟩
  rotate_left
  · have g := of_decide_eq_false (show decide (RV l) = false from g)
    intro _
    exact ⟨false, .inl rfl, by rw [decide_eq_false (fun h : (l.length ≤ 40 ∧ T.length ≤ 20) ∧ RV l ∧ Tv T => g h.2.1)], rfl⟩
  have g2 := of_decide_eq_true (show decide (RV l) = true from g)
  intro _
  refine call_pure [(0, some 1)] (rvalid_ok T hl2) rfl rfl rfl ?_ ?_ ?_
  · (repeat' first | exact trivial | exact rfl | refine And.intro ?_ ?_)
  · (repeat' first | exact trivial | exact rfl | refine And.intro ?_ ?_)
  intro v hv _
  subst hv
  intro _
  refine ⟨_, .inr rfl, ?_, rfl⟩
  have e : decide ((l.length ≤ 40 ∧ T.length ≤ 20) ∧ RV l ∧ Tv T) = decide (Tv T) := decide_eq_decide.2 ⟨fun h => h.2.2, fun h => ⟨g1, g2, h⟩⟩
  rw [e]
theorem ntw {l : Rws} (h : ∀ n ∈ l, rowWf [.int .i64, .int .i64, .int .i64, .int .i64, .str] n) : ∀ i, i < l.length → (nt l i).length ≤ 9223372036854775807 := by
  intro i hi
  have hm : l.getD i [] ∈ l := by
    rw [List.getD_eq_getElem?_getD, List.getElem?_eq_getElem hi]; exact List.getElem_mem hi
  obtain ⟨s, e, hw⟩ := (h _ hm).2 4 .str rfl
  unfold nt
  rw [e]
  show s.length ≤ _
  unfold maxLen at hw
  omega
theorem set_row {T : Rws} {i : Nat} {r : List D} (h : i < T.length) (k : Nat) : (T.set i r).getD k [] = if i = k then r else T.getD k [] := by
  rw [List.getD_eq_getElem?_getD, List.getD_eq_getElem?_getD, List.getElem?_set]
  by_cases e : i = k
  · subst e; rw [if_pos rfl, if_pos rfl, if_pos h]; rfl
  · rw [if_neg e, if_neg e]
theorem drop_row (T : Rws) (s k : Nat) : (T.drop s).getD k [] = T.getD (k + s) [] := by
  rw [List.getD_eq_getElem?_getD, List.getD_eq_getElem?_getD, List.getElem?_drop, Nat.add_comm]
/-- a selector that asks no more -/
structure Le (U T : Rws) : Prop where
  len : U.length = T.length
  k : ∀ i, tk U i = tk T i ∨ tk U i = 0
  c : ∀ i, tc U i = tc T i ∨ tc U i = 0
  t : ∀ i, ti U i = ti T i ∨ ti U i = 0
  b : ∀ i, tb U i = true → tb T i = true
theorem Le.refl (T : Rws) : Le T T := ⟨rfl, fun _ => .inl rfl, fun _ => .inl rfl, fun _ => .inl rfl, fun _ h => h⟩
theorem Le.Tv {U T : Rws} (h : Le U T) (hT : Tv T) : Tv U := by
  have hl := h.len
  refine ⟨⟨⟨by rw [hl]; exact hT.1.1.1, by rw [hl]; exact hT.1.1.2⟩, ?_⟩, fun i hi => ?_⟩
  · cases c : tb U 0 with
    | false => rfl
    | true => have := h.b 0 c; rw [hT.1.2] at this; cases this
  · obtain ⟨a, b, c⟩ := hT.2 i (by omega)
    have e1 := h.k i
    have e2 := h.c i
    have e3 := h.t i
    exact ⟨by omega, by omega, by omega⟩
theorem Le.ff {U T : Rws} (h : Le U T) (l : Rws) (i k : Nat) (hf : FFb l T i k = true) : FFb l U i k = true := by
  unfold FFb at hf ⊢
  have hf := of_decide_eq_true hf
  refine decide_eq_true ⟨?_, ?_, ?_⟩
  · rcases h.k k with e | e
    · rw [e]; exact hf.1
    · exact .inl e
  · rcases h.c k with e | e
    · rw [e]; exact hf.2.1
    · exact .inl e
  · rcases h.t k with e | e
    · rw [e]; exact hf.2.2
    · exact .inl e
theorem Le.wt {U T : Rws} (h : Le U T) : ∀ k, wt U k ≤ wt T k
  | 0 => Int.le_refl _
  | k + 1 => by
    have ih := h.wt k
    show selectorBegins.wt U k + (if ti U k ≠ 0 then 10000 else 0) + (if tc U k ≠ 0 then 100 else 0) + (if tk U k ≠ 0 then 1 else 0) ≤ selectorBegins.wt T k + (if ti T k ≠ 0 then 10000 else 0) + (if tc T k ≠ 0 then 100 else 0) + (if tk T k ≠ 0 then 1 else 0)
    have key : ∀ (a b v : Int), 0 ≤ v → (a = b ∨ a = 0) → (if a ≠ 0 then v else 0) ≤ (if b ≠ 0 then v else 0) := by
      intro a b v hv e
      by_cases c : a = 0
      · rw [if_neg (fun q => q c)]; split <;> omega
      · rcases e with e | e
        · subst e; exact Int.le_refl _
        · exact absurd e c
    have k1 := key _ _ 10000 (by decide) (h.t k)
    have k2 := key _ _ 100 (by decide) (h.c k)
    have k3 := key _ _ 1 (by decide) (h.k k)
    omega
theorem row_le {T : Rws} {s : Nat} {r : List D} (hs : s < T.length) (h0 : (r.getD 0 (D.n 0)).int = tk T s ∨ (r.getD 0 (D.n 0)).int = 0) (h1 : (r.getD 1 (D.n 0)).int = tc T s ∨ (r.getD 1 (D.n 0)).int = 0) (h2 : (r.getD 2 (D.n 0)).int = ti T s ∨ (r.getD 2 (D.n 0)).int = 0) (h3 : (r.getD 3 (D.n 0)).bool = true → tb T s = true) : Le (T.set s r) T := by
  refine ⟨List.length_set, fun i => ?_, fun i => ?_, fun i => ?_, fun i => ?_⟩
  all_goals (unfold tk tc ti tb at *; rw [set_row hs])
  all_goals (by_cases c : s = i)
  · subst c; rw [if_pos rfl]; exact h0
  · rw [if_neg c]; exact .inl rfl
  · subst c; rw [if_pos rfl]; exact h1
  · rw [if_neg c]; exact .inl rfl
  · subst c; rw [if_pos rfl]; exact h2
  · rw [if_neg c]; exact .inl rfl
  · subst c; rw [if_pos rfl]; exact h3
  · rw [if_neg c]; exact fun h => h
set_option maxHeartbeats 8000000 in
theorem law6 (l T : Rws) (q x : Int) (hl : List.length l ≤ 9223372036854775807) (hl2 : List.length T ≤ 9223372036854775807) (hs : ∀ i, i < l.length → (nt l i).length ≤ 9223372036854775807) (hq : 0 ≤ q ∧ q ≤ 255) (hx : 0 ≤ x ∧ x ≤ 255) : SemF Try.prog 6 [.slc 0 5 0 l.length, .slc 1 4 0 T.length, .int .u8 q, .int .u8 x] ⟨2, 2, [(0, .arr [.int .i64, .int .i64, .int .i64, .int .i64, .str] .ro (.recs l)), (1, .arr [.int .i64, .int .i64, .int .i64, .bool] .ro (.recs T))]⟩ (fun v _ => IsTrue v) := by
  refine enter tt_ok Try.func6 (nt := 113) (cd := body Try.f6) rfl rfl rfl rfl ?_
  intro _
  refine head_ok rfl Try.func10 (cd := body Try.f10) rfl ?_
  intro _
  refine call_pure [(0, some 0), (1, some 1)] (usable_ok l T hl hl2 hs) rfl rfl rfl ?_ ?_ ?_
  · (repeat' first | exact trivial | exact rfl | refine And.intro ?_ ?_)
  · (repeat' first | exact trivial | exact rfl | refine And.intro ?_ ?_)
  intro v hv _
  subst hv
  intro _; refine ⟨fun g => ?_, fun g => ?_⟩
  · intro _
    show true = true
    rfl
  have g : (!decide ((l.length ≤ 40 ∧ T.length ≤ 20) ∧ RV l ∧ Tv T)) = false := g
  rw [Bool.not_eq_false'] at g
  obtain ⟨⟨h40, h20⟩, hR, hT⟩ := of_decide_eq_true g
  have t1 := hT.1.1.1
  have t8 := hT.1.1.2
  have eq : IntKind.i64.wrap q = q := wrapS _ ⟨by omega, by omega⟩
  have m0 := Int.tmod_nonneg (T.length : Int) hq.1
  have m1 := Int.tmod_lt_of_pos q (show (0 : Int) < (T.length : Int) by omega)
  obtain ⟨s, es⟩ : ∃ s : Nat, q.tmod (T.length : Int) = (s : Int) := ⟨(q.tmod (T.length : Int)).toNat, by omega⟩
  have hsl : s < T.length := by omega
  have eS : (IntKind.i64.wrap q).tmod (T.length : Int) = (s : Int) := by rw [eq]; exact es
  have etk : (T.drop 0).take T.length = T := by simp
  have eC : ([] ++ (T.drop 0).take T.length : Rws) = T := by rw [etk]; rfl
  have l1 := il_len l T l.length
  intro _; refine ⟨show 0 + T.length ≤ T.length by omega, ?_⟩
  intro _; refine ⟨fun g3 => by have := Nat.eq_of_beq_eq_true g3; omega, fun _ => ?_⟩
  refine ⟨⟨rfl, by show 0 + T.length ≤ _; omega, by show (0 + T.length) * 32 ≤ _; omega⟩, ?_⟩
  intro _; refine ⟨show (T.length : Int) ≠ 0 by omega, ?_⟩
  intro _; refine ⟨by decide, ?_⟩
  have j1 : 0 ≤ (IntKind.i64.wrap q).tmod (T.length : Int) ∧ (IntKind.i64.wrap q).tmod (T.length : Int) < ((0 + T.length : Nat) : Int) := by rw [eS]; omega
  have j2 : ((IntKind.i64.wrap q).tmod (T.length : Int)).toNat < ([] ++ (T.drop 0).take T.length : Rws).length := by rw [eS, eC, Int.toNat_natCast]; exact hsl
  intro _; refine ⟨fun g => ?_, fun g => ?_⟩
  · intro _; refine ⟨j1, ?_⟩
    intro _; refine ⟨j2, ?_⟩
    obtain ⟨U, eU⟩ : ∃ U : Rws, U = ([] ++ (T.drop 0).take T.length : Rws).set ((IntKind.i64.wrap q).tmod (T.length : Int)).toNat [D.n 0, (([] ++ (T.drop 0).take T.length : Rws).getD ((IntKind.i64.wrap q).tmod (T.length : Int)).toNat []).getD 1 (D.n 0), (([] ++ (T.drop 0).take T.length : Rws).getD ((IntKind.i64.wrap q).tmod (T.length : Int)).toNat []).getD 2 (D.n 0), (([] ++ (T.drop 0).take T.length : Rws).getD ((IntKind.i64.wrap q).tmod (T.length : Int)).toNat []).getD 3 (D.n 0)] := ⟨_, rfl⟩
    have hLe : Le U T := by
      rw [eU, eS, eC, Int.toNat_natCast]
      exact row_le hsl (.inr rfl) (.inl rfl) (.inl rfl) (fun h => h)
    have hU := hLe.Tv hT
    have lU : U.length = 0 + T.length := by rw [hLe.len]; omega
    have l2 := il_len l U l.length
    have hm : ∀ x ∈ il l T l.length, x ∈ il l U l.length := more_mt (s := 0) hR.2.2.1 (by rw [hLe.len]; rfl) (by omega) (fun i k _ _ h => hLe.ff l i k h) (fun k _ _ h => hLe.b k h)
    have hw := hLe.wt T.length
    have hw0 := (wt_bd U U.length).1
    intro _
    refine call_new [(0, some 0), (1, some 1)] (sel_ok l T hR hT hs) rfl rfl rfl rfl ?_ ?_ ?_
    · (repeat' first | exact trivial | exact rfl | refine And.intro ?_ ?_)
    · (repeat' first | exact trivial | exact rfl | refine And.intro ?_ ?_)
    intro v h' hv
    obtain ⟨rfl, rfl⟩ := hv
    refine ⟨[(4, some 2)], 5, [(4, .arr [.int .i64] .grow (.ints (il l T l.length)))], .tup [.grw 4 (il l T l.length).length, .int .i64 0], rfl, rfl, rfl, rfl, rfl, ?_, ?_, ?_⟩
    · (repeat' first | exact trivial | exact rfl | refine And.intro ?_ ?_)
    · (repeat' first | exact trivial | exact rfl | refine And.intro ?_ ?_)
    intro _
    refine call_new [(0, some 0), (1, some 3)] (sel_ok l U hR hU hs) rfl rfl rfl rfl ?_ ?_ ?_
    · (repeat' first | exact trivial | exact rfl | refine And.intro ?_ ?_)
      exact eU
    · (repeat' first | exact trivial | exact rfl | refine And.intro ?_ ?_)
      exact lU
    intro v h' hv
    obtain ⟨rfl, rfl⟩ := hv
    refine ⟨[(5, some 2)], 6, [(5, .arr [.int .i64] .grow (.ints (il l U l.length)))], .tup [.grw 5 (il l U l.length).length, .int .i64 0], rfl, rfl, rfl, rfl, rfl, ?_, ?_, ?_⟩
    · (repeat' first | exact trivial | exact rfl | refine And.intro ?_ ?_)
    · (repeat' first | exact trivial | exact rfl | refine And.intro ?_ ?_)
    intro _
    refine call_pure [(0, some 1)] (Weight_ok T hl2) rfl rfl rfl ?_ ?_ ?_
    · (repeat' first | exact trivial | exact rfl | refine And.intro ?_ ?_)
    · (repeat' first | exact trivial | exact rfl | refine And.intro ?_ ?_)
    intro v hv _
    rw [WQ_ok hT] at hv; subst hv
    intro _
    refine call_pure [(0, some 3)] (Weight_ok U (by omega)) rfl rfl rfl ?_ ?_ ?_
    · (repeat' first | exact trivial | exact rfl | refine And.intro ?_ ?_)
      exact eU
    · (repeat' first | exact trivial | exact rfl | refine And.intro ?_ ?_)
      exact lU
    intro v hv _
    rw [WQ_ok hU] at hv; subst hv
    intro _; refine ⟨fun _ => ?_, fun g => absurd g (by decide)⟩
    intro _; refine ⟨fun _ => ?_, fun g => absurd g (by decide)⟩
    intro _; refine ⟨fun _ => ?_, fun g => absurd g (by decide)⟩
    intro _; refine ⟨fun _ => ?_, fun g => absurd g (by decide)⟩
    intro _
    refine call_pure [(0, some 4), (1, some 5)] (part_ok (il l T l.length) (il l U l.length) hm (by omega) (by omega)) rfl rfl rfl ?_ ?_ ?_
    · (repeat' first | exact trivial | exact rfl | refine And.intro ?_ ?_)
    · (repeat' first | exact trivial | exact rfl | refine And.intro ?_ ?_)
    intro v hv _
    subst hv
    intro _; refine ⟨fun _ => ?_, fun g => (Bool.noConfusion (show true = false from g))⟩
    intro _; refine ⟨fun g => ?_, fun g => ?_⟩
    rotate_left
    · exfalso
      have g := of_decide_eq_false (show decide (wt U U.length ≤ wt T T.length) = false from g)
      rw [hLe.len] at g
      exact g hw
    intro _
    show decide (wt U U.length ≥ 0) = true
    exact decide_eq_true hw0
  intro _; refine ⟨fun g => ?_, fun g => ?_⟩
  · intro _; refine ⟨j1, ?_⟩
    intro _; refine ⟨j2, ?_⟩
    obtain ⟨U, eU⟩ : ∃ U : Rws, U = ([] ++ (T.drop 0).take T.length : Rws).set ((IntKind.i64.wrap q).tmod (T.length : Int)).toNat [(([] ++ (T.drop 0).take T.length : Rws).getD ((IntKind.i64.wrap q).tmod (T.length : Int)).toNat []).getD 0 (D.n 0), D.n 0, (([] ++ (T.drop 0).take T.length : Rws).getD ((IntKind.i64.wrap q).tmod (T.length : Int)).toNat []).getD 2 (D.n 0), (([] ++ (T.drop 0).take T.length : Rws).getD ((IntKind.i64.wrap q).tmod (T.length : Int)).toNat []).getD 3 (D.n 0)] := ⟨_, rfl⟩
    have hLe : Le U T := by
      rw [eU, eS, eC, Int.toNat_natCast]
      exact row_le hsl (.inl rfl) (.inr rfl) (.inl rfl) (fun h => h)
    have hU := hLe.Tv hT
    have lU : U.length = 0 + T.length := by rw [hLe.len]; omega
    have l2 := il_len l U l.length
    have hm : ∀ x ∈ il l T l.length, x ∈ il l U l.length := more_mt (s := 0) hR.2.2.1 (by rw [hLe.len]; rfl) (by omega) (fun i k _ _ h => hLe.ff l i k h) (fun k _ _ h => hLe.b k h)
    have hw := hLe.wt T.length
    have hw0 := (wt_bd U U.length).1
    intro _
    refine call_new [(0, some 0), (1, some 1)] (sel_ok l T hR hT hs) rfl rfl rfl rfl ?_ ?_ ?_
    · (repeat' first | exact trivial | exact rfl | refine And.intro ?_ ?_)
    · (repeat' first | exact trivial | exact rfl | refine And.intro ?_ ?_)
    intro v h' hv
    obtain ⟨rfl, rfl⟩ := hv
    refine ⟨[(4, some 2)], 5, [(4, .arr [.int .i64] .grow (.ints (il l T l.length)))], .tup [.grw 4 (il l T l.length).length, .int .i64 0], rfl, rfl, rfl, rfl, rfl, ?_, ?_, ?_⟩
    · (repeat' first | exact trivial | exact rfl | refine And.intro ?_ ?_)
    · (repeat' first | exact trivial | exact rfl | refine And.intro ?_ ?_)
    intro _
    refine call_new [(0, some 0), (1, some 3)] (sel_ok l U hR hU hs) rfl rfl rfl rfl ?_ ?_ ?_
    · (repeat' first | exact trivial | exact rfl | refine And.intro ?_ ?_)
      exact eU
    · (repeat' first | exact trivial | exact rfl | refine And.intro ?_ ?_)
      exact lU
    intro v h' hv
    obtain ⟨rfl, rfl⟩ := hv
    refine ⟨[(5, some 2)], 6, [(5, .arr [.int .i64] .grow (.ints (il l U l.length)))], .tup [.grw 5 (il l U l.length).length, .int .i64 0], rfl, rfl, rfl, rfl, rfl, ?_, ?_, ?_⟩
    · (repeat' first | exact trivial | exact rfl | refine And.intro ?_ ?_)
    · (repeat' first | exact trivial | exact rfl | refine And.intro ?_ ?_)
    intro _
    refine call_pure [(0, some 1)] (Weight_ok T hl2) rfl rfl rfl ?_ ?_ ?_
    · (repeat' first | exact trivial | exact rfl | refine And.intro ?_ ?_)
    · (repeat' first | exact trivial | exact rfl | refine And.intro ?_ ?_)
    intro v hv _
    rw [WQ_ok hT] at hv; subst hv
    intro _
    refine call_pure [(0, some 3)] (Weight_ok U (by omega)) rfl rfl rfl ?_ ?_ ?_
    · (repeat' first | exact trivial | exact rfl | refine And.intro ?_ ?_)
      exact eU
    · (repeat' first | exact trivial | exact rfl | refine And.intro ?_ ?_)
      exact lU
    intro v hv _
    rw [WQ_ok hU] at hv; subst hv
    intro _; refine ⟨fun _ => ?_, fun g => absurd g (by decide)⟩
    intro _; refine ⟨fun _ => ?_, fun g => absurd g (by decide)⟩
    intro _; refine ⟨fun _ => ?_, fun g => absurd g (by decide)⟩
    intro _; refine ⟨fun _ => ?_, fun g => absurd g (by decide)⟩
    intro _
    refine call_pure [(0, some 4), (1, some 5)] (part_ok (il l T l.length) (il l U l.length) hm (by omega) (by omega)) rfl rfl rfl ?_ ?_ ?_
    · (repeat' first | exact trivial | exact rfl | refine And.intro ?_ ?_)
    · (repeat' first | exact trivial | exact rfl | refine And.intro ?_ ?_)
    intro v hv _
    subst hv
    intro _; refine ⟨fun _ => ?_, fun g => (Bool.noConfusion (show true = false from g))⟩
    intro _; refine ⟨fun g => ?_, fun g => ?_⟩
    rotate_left
    · exfalso
      have g := of_decide_eq_false (show decide (wt U U.length ≤ wt T T.length) = false from g)
      rw [hLe.len] at g
      exact g hw
    intro _
    show decide (wt U U.length ≥ 0) = true
    exact decide_eq_true hw0
  intro _; refine ⟨fun g => ?_, fun g => ?_⟩
  · intro _; refine ⟨j1, ?_⟩
    intro _; refine ⟨j2, ?_⟩
    obtain ⟨U, eU⟩ : ∃ U : Rws, U = ([] ++ (T.drop 0).take T.length : Rws).set ((IntKind.i64.wrap q).tmod (T.length : Int)).toNat [(([] ++ (T.drop 0).take T.length : Rws).getD ((IntKind.i64.wrap q).tmod (T.length : Int)).toNat []).getD 0 (D.n 0), (([] ++ (T.drop 0).take T.length : Rws).getD ((IntKind.i64.wrap q).tmod (T.length : Int)).toNat []).getD 1 (D.n 0), D.n 0, (([] ++ (T.drop 0).take T.length : Rws).getD ((IntKind.i64.wrap q).tmod (T.length : Int)).toNat []).getD 3 (D.n 0)] := ⟨_, rfl⟩
    have hLe : Le U T := by
      rw [eU, eS, eC, Int.toNat_natCast]
      exact row_le hsl (.inl rfl) (.inl rfl) (.inr rfl) (fun h => h)
    have hU := hLe.Tv hT
    have lU : U.length = 0 + T.length := by rw [hLe.len]; omega
    have l2 := il_len l U l.length
    have hm : ∀ x ∈ il l T l.length, x ∈ il l U l.length := more_mt (s := 0) hR.2.2.1 (by rw [hLe.len]; rfl) (by omega) (fun i k _ _ h => hLe.ff l i k h) (fun k _ _ h => hLe.b k h)
    have hw := hLe.wt T.length
    have hw0 := (wt_bd U U.length).1
    intro _
    refine call_new [(0, some 0), (1, some 1)] (sel_ok l T hR hT hs) rfl rfl rfl rfl ?_ ?_ ?_
    · (repeat' first | exact trivial | exact rfl | refine And.intro ?_ ?_)
    · (repeat' first | exact trivial | exact rfl | refine And.intro ?_ ?_)
    intro v h' hv
    obtain ⟨rfl, rfl⟩ := hv
    refine ⟨[(4, some 2)], 5, [(4, .arr [.int .i64] .grow (.ints (il l T l.length)))], .tup [.grw 4 (il l T l.length).length, .int .i64 0], rfl, rfl, rfl, rfl, rfl, ?_, ?_, ?_⟩
    · (repeat' first | exact trivial | exact rfl | refine And.intro ?_ ?_)
    · (repeat' first | exact trivial | exact rfl | refine And.intro ?_ ?_)
    intro _
    refine call_new [(0, some 0), (1, some 3)] (sel_ok l U hR hU hs) rfl rfl rfl rfl ?_ ?_ ?_
    · (repeat' first | exact trivial | exact rfl | refine And.intro ?_ ?_)
      exact eU
    · (repeat' first | exact trivial | exact rfl | refine And.intro ?_ ?_)
      exact lU
    intro v h' hv
    obtain ⟨rfl, rfl⟩ := hv
    refine ⟨[(5, some 2)], 6, [(5, .arr [.int .i64] .grow (.ints (il l U l.length)))], .tup [.grw 5 (il l U l.length).length, .int .i64 0], rfl, rfl, rfl, rfl, rfl, ?_, ?_, ?_⟩
    · (repeat' first | exact trivial | exact rfl | refine And.intro ?_ ?_)
    · (repeat' first | exact trivial | exact rfl | refine And.intro ?_ ?_)
    intro _
    refine call_pure [(0, some 1)] (Weight_ok T hl2) rfl rfl rfl ?_ ?_ ?_
    · (repeat' first | exact trivial | exact rfl | refine And.intro ?_ ?_)
    · (repeat' first | exact trivial | exact rfl | refine And.intro ?_ ?_)
    intro v hv _
    rw [WQ_ok hT] at hv; subst hv
    intro _
    refine call_pure [(0, some 3)] (Weight_ok U (by omega)) rfl rfl rfl ?_ ?_ ?_
    · (repeat' first | exact trivial | exact rfl | refine And.intro ?_ ?_)
      exact eU
    · (repeat' first | exact trivial | exact rfl | refine And.intro ?_ ?_)
      exact lU
    intro v hv _
    rw [WQ_ok hU] at hv; subst hv
    intro _; refine ⟨fun _ => ?_, fun g => absurd g (by decide)⟩
    intro _; refine ⟨fun _ => ?_, fun g => absurd g (by decide)⟩
    intro _; refine ⟨fun _ => ?_, fun g => absurd g (by decide)⟩
    intro _; refine ⟨fun _ => ?_, fun g => absurd g (by decide)⟩
    intro _
    refine call_pure [(0, some 4), (1, some 5)] (part_ok (il l T l.length) (il l U l.length) hm (by omega) (by omega)) rfl rfl rfl ?_ ?_ ?_
    · (repeat' first | exact trivial | exact rfl | refine And.intro ?_ ?_)
    · (repeat' first | exact trivial | exact rfl | refine And.intro ?_ ?_)
    intro v hv _
    subst hv
    intro _; refine ⟨fun _ => ?_, fun g => (Bool.noConfusion (show true = false from g))⟩
    intro _; refine ⟨fun g => ?_, fun g => ?_⟩
    rotate_left
    · exfalso
      have g := of_decide_eq_false (show decide (wt U U.length ≤ wt T T.length) = false from g)
      rw [hLe.len] at g
      exact g hw
    intro _
    show decide (wt U U.length ≥ 0) = true
    exact decide_eq_true hw0
  intro _; refine ⟨fun g => ?_, fun g => ?_⟩
  · intro _; refine ⟨j1, ?_⟩
    intro _; refine ⟨j2, ?_⟩
    obtain ⟨U, eU⟩ : ∃ U : Rws, U = ([] ++ (T.drop 0).take T.length : Rws).set ((IntKind.i64.wrap q).tmod (T.length : Int)).toNat [(([] ++ (T.drop 0).take T.length : Rws).getD ((IntKind.i64.wrap q).tmod (T.length : Int)).toNat []).getD 0 (D.n 0), (([] ++ (T.drop 0).take T.length : Rws).getD ((IntKind.i64.wrap q).tmod (T.length : Int)).toNat []).getD 1 (D.n 0), (([] ++ (T.drop 0).take T.length : Rws).getD ((IntKind.i64.wrap q).tmod (T.length : Int)).toNat []).getD 2 (D.n 0), D.b false] := ⟨_, rfl⟩
    have hLe : Le U T := by
      rw [eU, eS, eC, Int.toNat_natCast]
      exact row_le hsl (.inl rfl) (.inl rfl) (.inl rfl) (fun h => Bool.noConfusion (show false = true from h))
    have hU := hLe.Tv hT
    have lU : U.length = 0 + T.length := by rw [hLe.len]; omega
    have l2 := il_len l U l.length
    have hm : ∀ x ∈ il l T l.length, x ∈ il l U l.length := more_mt (s := 0) hR.2.2.1 (by rw [hLe.len]; rfl) (by omega) (fun i k _ _ h => hLe.ff l i k h) (fun k _ _ h => hLe.b k h)
    have hw := hLe.wt T.length
    have hw0 := (wt_bd U U.length).1
    intro _
    refine call_new [(0, some 0), (1, some 1)] (sel_ok l T hR hT hs) rfl rfl rfl rfl ?_ ?_ ?_
    · (repeat' first | exact trivial | exact rfl | refine And.intro ?_ ?_)
    · (repeat' first | exact trivial | exact rfl | refine And.intro ?_ ?_)
    intro v h' hv
    obtain ⟨rfl, rfl⟩ := hv
    refine ⟨[(4, some 2)], 5, [(4, .arr [.int .i64] .grow (.ints (il l T l.length)))], .tup [.grw 4 (il l T l.length).length, .int .i64 0], rfl, rfl, rfl, rfl, rfl, ?_, ?_, ?_⟩
    · (repeat' first | exact trivial | exact rfl | refine And.intro ?_ ?_)
    · (repeat' first | exact trivial | exact rfl | refine And.intro ?_ ?_)
    intro _
    refine call_new [(0, some 0), (1, some 3)] (sel_ok l U hR hU hs) rfl rfl rfl rfl ?_ ?_ ?_
    · (repeat' first | exact trivial | exact rfl | refine And.intro ?_ ?_)
      exact eU
    · (repeat' first | exact trivial | exact rfl | refine And.intro ?_ ?_)
      exact lU
    intro v h' hv
    obtain ⟨rfl, rfl⟩ := hv
    refine ⟨[(5, some 2)], 6, [(5, .arr [.int .i64] .grow (.ints (il l U l.length)))], .tup [.grw 5 (il l U l.length).length, .int .i64 0], rfl, rfl, rfl, rfl, rfl, ?_, ?_, ?_⟩
    · (repeat' first | exact trivial | exact rfl | refine And.intro ?_ ?_)
    · (repeat' first | exact trivial | exact rfl | refine And.intro ?_ ?_)
    intro _
    refine call_pure [(0, some 1)] (Weight_ok T hl2) rfl rfl rfl ?_ ?_ ?_
    · (repeat' first | exact trivial | exact rfl | refine And.intro ?_ ?_)
    · (repeat' first | exact trivial | exact rfl | refine And.intro ?_ ?_)
    intro v hv _
    rw [WQ_ok hT] at hv; subst hv
    intro _
    refine call_pure [(0, some 3)] (Weight_ok U (by omega)) rfl rfl rfl ?_ ?_ ?_
    · (repeat' first | exact trivial | exact rfl | refine And.intro ?_ ?_)
      exact eU
    · (repeat' first | exact trivial | exact rfl | refine And.intro ?_ ?_)
      exact lU
    intro v hv _
    rw [WQ_ok hU] at hv; subst hv
    intro _; refine ⟨fun _ => ?_, fun g => absurd g (by decide)⟩
    intro _; refine ⟨fun _ => ?_, fun g => absurd g (by decide)⟩
    intro _; refine ⟨fun _ => ?_, fun g => absurd g (by decide)⟩
    intro _; refine ⟨fun _ => ?_, fun g => absurd g (by decide)⟩
    intro _
    refine call_pure [(0, some 4), (1, some 5)] (part_ok (il l T l.length) (il l U l.length) hm (by omega) (by omega)) rfl rfl rfl ?_ ?_ ?_
    · (repeat' first | exact trivial | exact rfl | refine And.intro ?_ ?_)
    · (repeat' first | exact trivial | exact rfl | refine And.intro ?_ ?_)
    intro v hv _
    subst hv
    intro _; refine ⟨fun _ => ?_, fun g => (Bool.noConfusion (show true = false from g))⟩
    intro _; refine ⟨fun g => ?_, fun g => ?_⟩
    rotate_left
    · exfalso
      have g := of_decide_eq_false (show decide (wt U U.length ≤ wt T T.length) = false from g)
      rw [hLe.len] at g
      exact g hw
    intro _
    show decide (wt U U.length ≥ 0) = true
    exact decide_eq_true hw0
  obtain ⟨U, eU⟩ : ∃ U : Rws, U = ([] ++ (T.drop 0).take T.length : Rws) := ⟨_, rfl⟩
  have hLe : Le U T := by rw [eU, eC]; exact Le.refl T
  have hU := hLe.Tv hT
  have lU : U.length = 0 + T.length := by rw [hLe.len]; omega
  have l2 := il_len l U l.length
  have hm : ∀ x ∈ il l T l.length, x ∈ il l U l.length := more_mt (s := 0) hR.2.2.1 (by rw [hLe.len]; rfl) (by omega) (fun i k _ _ h => hLe.ff l i k h) (fun k _ _ h => hLe.b k h)
  have hw := hLe.wt T.length
  have hw0 := (wt_bd U U.length).1
  intro _
  refine call_new [(0, some 0), (1, some 1)] (sel_ok l T hR hT hs) rfl rfl rfl rfl ?_ ?_ ?_
  · (repeat' first | exact trivial | exact rfl | refine And.intro ?_ ?_)
  · (repeat' first | exact trivial | exact rfl | refine And.intro ?_ ?_)
  intro v h' hv
  obtain ⟨rfl, rfl⟩ := hv
  refine ⟨[(4, some 2)], 5, [(4, .arr [.int .i64] .grow (.ints (il l T l.length)))], .tup [.grw 4 (il l T l.length).length, .int .i64 0], rfl, rfl, rfl, rfl, rfl, ?_, ?_, ?_⟩
  · (repeat' first | exact trivial | exact rfl | refine And.intro ?_ ?_)
  · (repeat' first | exact trivial | exact rfl | refine And.intro ?_ ?_)
  intro _
  refine call_new [(0, some 0), (1, some 3)] (sel_ok l U hR hU hs) rfl rfl rfl rfl ?_ ?_ ?_
  · (repeat' first | exact trivial | exact rfl | refine And.intro ?_ ?_)
    exact eU
  · (repeat' first | exact trivial | exact rfl | refine And.intro ?_ ?_)
    exact lU
  intro v h' hv
  obtain ⟨rfl, rfl⟩ := hv
  refine ⟨[(5, some 2)], 6, [(5, .arr [.int .i64] .grow (.ints (il l U l.length)))], .tup [.grw 5 (il l U l.length).length, .int .i64 0], rfl, rfl, rfl, rfl, rfl, ?_, ?_, ?_⟩
  · (repeat' first | exact trivial | exact rfl | refine And.intro ?_ ?_)
  · (repeat' first | exact trivial | exact rfl | refine And.intro ?_ ?_)
  intro _
  refine call_pure [(0, some 1)] (Weight_ok T hl2) rfl rfl rfl ?_ ?_ ?_
  · (repeat' first | exact trivial | exact rfl | refine And.intro ?_ ?_)
  · (repeat' first | exact trivial | exact rfl | refine And.intro ?_ ?_)
  intro v hv _
  rw [WQ_ok hT] at hv; subst hv
  intro _
  refine call_pure [(0, some 3)] (Weight_ok U (by omega)) rfl rfl rfl ?_ ?_ ?_
  · (repeat' first | exact trivial | exact rfl | refine And.intro ?_ ?_)
    exact eU
  · (repeat' first | exact trivial | exact rfl | refine And.intro ?_ ?_)
    exact lU
  intro v hv _
  rw [WQ_ok hU] at hv; subst hv
  intro _; refine ⟨fun _ => ?_, fun g => absurd g (by decide)⟩
  intro _; refine ⟨fun _ => ?_, fun g => absurd g (by decide)⟩
  intro _; refine ⟨fun _ => ?_, fun g => absurd g (by decide)⟩
  intro _; refine ⟨fun _ => ?_, fun g => absurd g (by decide)⟩
  intro _
  refine call_pure [(0, some 4), (1, some 5)] (part_ok (il l T l.length) (il l U l.length) hm (by omega) (by omega)) rfl rfl rfl ?_ ?_ ?_
  · (repeat' first | exact trivial | exact rfl | refine And.intro ?_ ?_)
  · (repeat' first | exact trivial | exact rfl | refine And.intro ?_ ?_)
  intro v hv _
  subst hv
  intro _; refine ⟨fun _ => ?_, fun g => (Bool.noConfusion (show true = false from g))⟩
  intro _; refine ⟨fun g => ?_, fun g => ?_⟩
  rotate_left
  · exfalso
    have g := of_decide_eq_false (show decide (wt U U.length ≤ wt T T.length) = false from g)
    rw [hLe.len] at g
    exact g hw
  intro _
  show decide (wt U U.length ≥ 0) = true
  exact decide_eq_true hw0

theorem walk (w : World) (v_q0 : Value) (s_q0 : Src) (q0 : List (List Go.Vm2.D)) (cap_q0 : Nat) (hk_q0 : s_q0.ks = [.int .i64, .int .i64, .int .i64, .int .i64, .str]) (ha_q0 : s_q0.ac = .recs q0) (hs_q0 : s_q0.lies w) (hn_q0 : s_q0.at_ = none → q0.length = 0) (hc_q0 : q0.length ≤ cap_q0) (hv_q0 : v_q0 = s_q0.val cap_q0) (hm_q0 : q0.length ≤ maxLen) (w_q0 : ∀ n ∈ q0, rowWf [.int .i64, .int .i64, .int .i64, .int .i64, .str] n) (v_k0 : Value) (s_k0 : Src) (k0 : List (List Go.Vm2.D)) (cap_k0 : Nat) (hk_k0 : s_k0.ks = [.int .i64, .int .i64, .int .i64, .bool]) (ha_k0 : s_k0.ac = .recs k0) (hs_k0 : s_k0.lies w) (hn_k0 : s_k0.at_ = none → k0.length = 0) (hc_k0 : k0.length ≤ cap_k0) (hv_k0 : v_k0 = s_k0.val cap_k0) (hm_k0 : k0.length ≤ maxLen) (w_k0 : ∀ n ∈ k0, rowWf [.int .i64, .int .i64, .int .i64, .bool] n) (w0 : Int) (w_w0 : (Lit.int .u8 w0).wf = true) (x0 : Int) (w_x0 : (Lit.int .u8 x0).wf = true) :
    Calls Try.prog 6 #[v_q0, v_k0, .int .u8 w0, .int .u8 x0] w fun e w' => e = .returned (.bool true) ∧ Below w.heap.size w w' := by
  obtain ⟨at_q0, ks_q0, ac_q0⟩ := s_q0
  simp only [] at hk_q0 ha_q0
  subst hk_q0 ha_q0
  have h_q0 : q0.length ≤ 9223372036854775807 := by unfold maxLen at hm_q0; omega
  obtain ⟨at_k0, ks_k0, ac_k0⟩ := s_k0
  simp only [] at hk_k0 ha_k0
  subst hk_k0 ha_k0
  have h_k0 : k0.length ≤ 9223372036854775807 := by unfold maxLen at hm_k0; omega
  have b_w0 := w_w0
  simp [Lit.wf, IntKind.min, IntKind.max, IntKind.signed, IntKind.bits] at b_w0
  have b_x0 := w_x0
  simp [Lit.wf, IntKind.min, IntKind.max, IntKind.signed, IntKind.bits] at b_x0
  exact top_run (by kernel_rfl) (by kernel_rfl) (T := [10]) (fun f hf w => by
      rcases List.mem_cons.1 hf with e | e
      · subst e; exact head w
      · exact (List.not_mem_nil e).elim) (l := [⟨at_q0, [.int .i64, .int .i64, .int .i64, .int .i64, .str], .recs q0⟩, ⟨at_k0, [.int .i64, .int .i64, .int .i64, .bool], .recs k0⟩]) (args := [.slc 0 5 0 q0.length, .slc 1 4 0 k0.length, .int .u8 w0, .int .u8 x0]) («as» := [Src.av 0 cap_q0 ⟨at_q0, [.int .i64, .int .i64, .int .i64, .int .i64, .str], .recs q0⟩, Src.av 1 cap_k0 ⟨at_k0, [.int .i64, .int .i64, .int .i64, .bool], .recs k0⟩, .int .u8 w0, .int .u8 x0]) (cargs := [v_q0, v_k0, .int .u8 w0, .int .u8 x0]) w
    (fun s h => by
      rcases List.mem_cons.1 h with e | h
      · subst e; exact hs_q0
      · rcases List.mem_cons.1 h with e | h
        · subst e; exact hs_k0
        · exact (List.not_mem_nil h).elim)
    (Cvs.cons (src_cv (s := ⟨at_q0, [.int .i64, .int .i64, .int .i64, .int .i64, .str], .recs q0⟩) rfl 5 hc_q0 hn_q0) (Cvs.cons (src_cv (s := ⟨at_k0, [.int .i64, .int .i64, .int .i64, .bool], .recs k0⟩) rfl 4 hc_k0 hn_k0) (Cvs.cons mk_int (Cvs.cons mk_int Cvs.nil))))
    (by simp only [Go.Vm.convs, Go.Vm.conv]; rw [src_conv (j := 0) (s := ⟨at_q0, [.int .i64, .int .i64, .int .i64, .int .i64, .str], .recs q0⟩) rfl, src_conv (j := 1) (s := ⟨at_k0, [.int .i64, .int .i64, .int .i64, .bool], .recs k0⟩) rfl, hv_q0, hv_k0])
    (law6 q0 k0 w0 x0 h_q0 h_k0 (ntw w_q0) (by omega) (by omega))

set_option maxRecDepth 100000 in
theorem lifted (os : Os) (started : os.Started) (H : Type) (enc : TypeId × Value → H) :
    ReturnsInHanded {} Try.checked os 6 .any (Rows.selectorLooserSpec.pre6 enc Try.prog Try.f6 Rows.selectorLooserRow.domain false) (Rows.selectorLooserSpec.post enc Try.prog Try.f6 false true false false) := by
  refine returnsInHanded_of_change (C := Try.checked) own started (by kernel_rfl) Try.func6
    (ChangeSpec.witness6 (enc := enc) (C := Try.checked) false ⟨#[], #[.slice none 0 0, .slice none 0 0, .int .u8 0, .int .u8 0], []⟩ 8 (by kernel_rfl) (by kernel_rfl) (by kernel_rfl) (by kernel_rfl)) ?_
  intro W base args ds gs before hval0 hW hcnd _
  have hval : ∀ (j : Nat) t v, Try.f6.params[j]? = some t → args[j]? = some v → Value.okWide Try.prog W .any base t v := hval0
  have hW' := hW
  obtain ⟨p, q, hA0, hV, rfl, hfz, hnd⟩ := hW
  have hA : DataW.TrodAll enc Try.prog W 0 (fun _ => true) true Try.f6.params.toList args.toList ds p := hA0
  rw [Try.params6] at hA hval
  obtain ⟨v0, vs0, d0, ds0, p0, q0, hargs, rfl, rfl, h0, r0⟩ := trodAll_cons hA
  obtain ⟨v1, vs1, d1, ds1, p1, q1, rfl, rfl, rfl, h1, r1⟩ := trodAll_cons r0
  obtain ⟨v2, vs2, d2, ds2, p2, q2, rfl, rfl, rfl, h2, r2⟩ := trodAll_cons r1
  obtain ⟨v3, vs3, d3, ds3, p3, q3, rfl, rfl, rfl, h3, r3⟩ := trodAll_cons r2
  obtain ⟨rfl, rfl, rfl⟩ := trodAll_nil r3
  obtain rfl : args = #[v0, v1, v2, v3] := by cases args; simp_all
  obtain ⟨rfl, rfl⟩ := trodVars_none hV
  obtain ⟨s_q0, q0, cap_q0, hk_q0, ha_q0, hs_q0, hn_q0, hc_q0, hv_q0, hm_q0, w_q0⟩ := Go.Vm2.open_recs (ks := [.int .i64, .int .i64, .int .i64, .int .i64, .str]) Try.underlying22 Try.underlying38 (by kernel_rfl) (by simp) (by kernel_rfl) (hval 0 22 v0 rfl rfl) h0
  have hlt0 : ∀ x ∈ p0, x.block < W.heap.size := fun x hx => by simpa using hW'.lt x (by simp [hx])
  obtain ⟨s_k0, k0, cap_k0, hk_k0, ha_k0, hs_k0, hn_k0, hc_k0, hv_k0, hm_k0, w_k0⟩ := Go.Vm2.open_recs (ks := [.int .i64, .int .i64, .int .i64, .bool]) Try.underlying23 Try.underlying40 (by kernel_rfl) (by simp) (by kernel_rfl) (hval 1 23 v1 rfl rfl) h1
  have hlt1 : ∀ x ∈ p1, x.block < W.heap.size := fun x hx => by simpa using hW'.lt x (by simp [hx])
  obtain ⟨w0, rfl, rfl, rfl, w_w0⟩ := open_int Try.underlying5 (hval 2 5 v2 rfl rfl) h2
  obtain ⟨x0, rfl, rfl, rfl, w_x0⟩ := open_int Try.underlying5 (hval 3 5 v3 rfl rfl) h3
  clear hA0 hval0
  refine (walk W v0 s_q0 q0 cap_q0 hk_q0 ha_q0 hs_q0 hn_q0 hc_q0 hv_q0 hm_q0 w_q0 v1 s_k0 k0 cap_k0 hk_k0 ha_k0 hs_k0 hn_k0 hc_k0 hv_k0 hm_k0 w_k0 w0 w_w0 x0 w_x0).mono fun e W' ⟨he, hg⟩ => ?_
  subst he
  exact ⟨_, rfl, _, _, _, [], _, [], hW', trodAll_cons_mk (shut_bool Try.underlying4 _) trodAll_mk0, (trodAll_cons_mk (Below.trod laidOut (by kernel_rfl) (of_decide_eq_true (by kernel_rfl)) h0 hg hlt0) (trodAll_cons_mk (Below.trod laidOut (by kernel_rfl) (of_decide_eq_true (by kernel_rfl)) h1 hg hlt1) (trodAll_cons_mk (shut_int Try.underlying5 w_w0) (trodAll_cons_mk (shut_int Try.underlying5 w_x0) trodAll_mk0)))), rfl, hg.frame _, fun h => by cases h⟩

theorem over : Rows.selectorLooserRow.holds Try.pinned (OpenSpec.ofChange Rows.selectorLooserSpec) :=
  OpenClaim.holds_of_wide 6 Try.f6 rfl rfl rfl rfl rfl rfl rfl ⟨rfl, rfl, rfl, rfl, rfl⟩ rfl rfl rfl rfl rfl (by kernel_rfl) Try.func6 (by kernel_rfl)
    (of_decide_eq_true (by kernel_rfl)) (by unfold Func.isWrapper; first | (rw [if_pos (by decide +kernel)]; kernel_rfl) | (rw [if_neg (by decide +kernel)]; exact ⟨rfl, rfl⟩))
    (fun os started H enc _ => lifted os started H enc)

/-- the statement -/
theorem proved : Rows.SelectorLooserSaid :=
  over
#print axioms proved
end Go.Proofs.Ytmdobpjkcheneaa.selectorLooser
