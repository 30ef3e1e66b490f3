/-
  SelectorPaths: whatever the arguments, the law returns true, and its arguments read as before. No conditions.
-/
import Derived.Test.YtmdobpjkcheneaaRows
import Derived.Test.YtmdobpjkcheneaaVwOpen2
import Derived.Test.YtmdobpjkcheneaaVwRules7
import Derived.Test.YtmdobpjkcheneaaVmFast3
import Derived.WalkKit
import Derived.ProofKit
import Derived.OpenShut
import Derived.Carry
import Derived.Test.YtmdobpjkcheneaaHead
import Derived.Laws.RangeAny
import Derived.Test.YtmdobpjkcheneaaVwRules8
import Derived.Test.YtmdobpjkcheneaaTreA
import Derived.Test.YtmdobpjkcheneaaTreB
namespace Go.Proofs.Ytmdobpjkcheneaa.selectorPaths
open Go.ChangeShapes Go.WideShapes Go.ChangeAt Go.RowKit
open Go.Vm (Facts Val Sound)
open Go.Vm2
set_option linter.unusedVariables false
set_option linter.unusedSectionVars false

open Go.Proofs.Ytmdobpjkcheneaa.selectorBegins
theorem own : ownKnob Try.prog.godebug = none := by kernel_rfl
theorem laidOut : laidOutB Try.prog = true := by kernel_rfl
set_option maxRecDepth 100000
theorem few_ok (l T : Rws) : SemF Try.prog 11 [.slc 0 5 0 l.length, .slc 1 4 0 T.length] ⟨2, 2, [(0, .arr [.int .i64, .int .i64, .int .i64, .int .i64, .str] .rd (.recs l)), (1, .arr [.int .i64, .int .i64, .int .i64, .bool] .rd (.recs T))]⟩ (fun v _ => v = .test (decide (l.length ≤ 40 ∧ T.length ≤ 20)) ∧ nameless v = true) := by
  refine SemF.test ?_
  refine enter tt_ok Try.func11 (nt := 13) (cd := body Try.f11) rfl rfl rfl rfl ?_
  intro _; refine ⟨fun g => ?_, fun g => ?_⟩
  rotate_left
  · have g := of_decide_eq_false (show decide ((l.length : Int) ≤ 40) = false from g)
    intro _
    exact ⟨false, .inl rfl, by rw [decide_eq_false (fun h : l.length ≤ 40 ∧ T.length ≤ 20 => by have := h.1; omega)], rfl⟩
  have g1 := of_decide_eq_true (show decide ((l.length : Int) ≤ 40) = true from g)
  intro _
  refine ⟨_, .inr rfl, ?_, rfl⟩
  have e : decide (l.length ≤ 40 ∧ T.length ≤ 20) = decide ((T.length : Int) ≤ 20) := decide_eq_decide.2 ⟨fun h => by have := h.2; omega, fun h => ⟨by omega, by omega⟩⟩
  rw [e]
theorem usable_ok (l T : Rws) (hl : l.length ≤ 9223372036854775807) (hl2 : T.length ≤ 9223372036854775807) (hs : ∀ i, i < l.length → (nt l i).length ≤ 9223372036854775807) : SemF Try.prog 21 [.slc 0 5 0 l.length, .slc 1 4 0 T.length] ⟨2, 2, [(0, .arr [.int .i64, .int .i64, .int .i64, .int .i64, .str] .rd (.recs l)), (1, .arr [.int .i64, .int .i64, .int .i64, .bool] .rd (.recs T))]⟩ (fun v _ => v = .test (decide ((l.length ≤ 40 ∧ T.length ≤ 20) ∧ RV l ∧ Tv T)) ∧ nameless v = true) := by
  refine SemF.test ?_
  refine enter tt_ok Try.func21 (nt := 16) (cd := body Try.f21) rfl rfl rfl rfl ?_
  intro _
  refine call_pure [(0, some 0), (1, some 1)] (few_ok l T) rfl rfl rfl ?_ ?_ ?_
  · (repeat' first | exact trivial | exact rfl | refine And.intro ?_ ?_)
  · (repeat' first | exact trivial | exact rfl | refine And.intro ?_ ?_)
  intro v hv _
  subst hv
  intro _; refine ⟨fun g => ?_, fun g => ?_⟩
  rotate_left
  · have g := of_decide_eq_false (show decide (l.length ≤ 40 ∧ T.length ≤ 20) = false from g)
    intro _
    exact ⟨false, .inl rfl, by rw [decide_eq_false (fun h : (l.length ≤ 40 ∧ T.length ≤ 20) ∧ RV l ∧ Tv T => g h.1)], rfl⟩
  have g1 := of_decide_eq_true (show decide (l.length ≤ 40 ∧ T.length ≤ 20) = true from g)
  intro _
  refine call_pure [(0, some 0)] (tree_ok l hl hs) rfl rfl rfl ?_ ?_ ?_
  · (repeat' first | exact trivial | exact rfl | refine And.intro ?_ ?_)
  · (repeat' first | exact trivial | exact rfl | refine And.intro ?_ ?_)
  intro v hv _
  subst hv
  intro _; refine ⟨fun g => ?_, fun g => ?_⟩
  rotate_left
  · have g := of_decide_eq_false (show decide (RV l) = false from g)
    intro _
    exact ⟨false, .inl rfl, by rw [decide_eq_false (fun h : (l.length ≤ 40 ∧ T.length ≤ 20) ∧ RV l ∧ Tv T => g h.2.1)], rfl⟩
  have g2 := of_decide_eq_true (show decide (RV l) = true from g)
  intro _
  refine call_pure [(0, some 1)] (rvalid_ok T hl2) rfl rfl rfl ?_ ?_ ?_
  · (repeat' first | exact trivial | exact rfl | refine And.intro ?_ ?_)
  · (repeat' first | exact trivial | exact rfl | refine And.intro ?_ ?_)
  intro v hv _
  subst hv
  intro _
  refine ⟨_, .inr rfl, ?_, rfl⟩
  have e : decide ((l.length ≤ 40 ∧ T.length ≤ 20) ∧ RV l ∧ Tv T) = decide (Tv T) := decide_eq_decide.2 ⟨fun h => h.2.2, fun h => ⟨g1, g2, h⟩⟩
  rw [e]
theorem ntw {l : Rws} (h : ∀ n ∈ l, rowWf [.int .i64, .int .i64, .int .i64, .int .i64, .str] n) : ∀ i, i < l.length → (nt l i).length ≤ 9223372036854775807 := by
  intro i hi
  have hm : l.getD i [] ∈ l := by
    rw [List.getD_eq_getElem?_getD, List.getElem?_eq_getElem hi]; exact List.getElem_mem hi
  obtain ⟨s, e, hw⟩ := (h _ hm).2 4 .str rfl
  unfold nt
  rw [e]
  show s.length ≤ _
  unfold maxLen at hw
  omega
theorem set_row {T : Rws} {i : Nat} {r : List D} (h : i < T.length) (k : Nat) : (T.set i r).getD k [] = if i = k then r else T.getD k [] := by
  rw [List.getD_eq_getElem?_getD, List.getD_eq_getElem?_getD, List.getElem?_set]
  by_cases e : i = k
  · subst e; rw [if_pos rfl, if_pos rfl, if_pos h]; rfl
  · rw [if_neg e, if_neg e]
theorem drop_row (T : Rws) (s k : Nat) : (T.drop s).getD k [] = T.getD (k + s) [] := by
  rw [List.getD_eq_getElem?_getD, List.getD_eq_getElem?_getD, List.getElem?_drop, Nat.add_comm]
theorem fi_at {l : Rws} (hR : RV l) {i : Nat} (hi : i < l.length) : fi l (ni l i) l.length = i := fi_eq hi rfl (fi_none i (hR.2.1 i hi).2)
theorem gm_at {l : Rws} (hR : RV l) {i : Nat} (hi : i < l.length) : mfind (gm l l.length) (ni l i) = some [D.n (i : Nat)] := by
  rw [gm_find _ _ (fun i hi => (hR.2.1 i hi).2), fi_at hR hi, if_pos hi]
/-- the place above, from one on; 0 above the root -/
def nx (l : Rws) (i : Nat) : Nat := if i = 0 then 0 else pr l i + 1
def sid (l : Rws) : Nat → Int
  | 0 => 0
  | i + 1 => ni l i
theorem nx_le {l : Rws} (hP : ∀ i, i < l.length → Pa l i) {i : Nat} (hi : i < l.length) : nx l i ≤ i := by
  unfold nx
  by_cases c : i = 0
  · rw [if_pos c]; omega
  · rw [if_neg c]; exact ((hP i hi).2 (by omega)).1
theorem sid_nx {l : Rws} (hP : ∀ i, i < l.length → Pa l i) {i : Nat} (hi : i < l.length) : sid l (nx l i) = np l i := by
  unfold nx
  by_cases c : i = 0
  · subst c; rw [if_pos rfl]; exact ((hP 0 hi).1 rfl).1.symm
  · rw [if_neg c]
    exact (fi_lt (l := l) (id := np l i) i ((hP i hi).2 (by omega)).1).1
/-- from a node to the root -/
def up (l : Rws) : Nat → Nat → List Int
  | 0, _ => []
  | _ + 1, 0 => []
  | f + 1, i + 1 => ni l i :: up l f (nx l i)
theorem up_fuel {l : Rws} (hP : ∀ i, i < l.length → Pa l i) (f s : Nat) (h : s ≤ f) (hs : s ≤ l.length) : up l f s = up l s s := by
  match f, s with
  | 0, 0 => rfl
  | 0, s + 1 => omega
  | f + 1, 0 => rfl
  | f + 1, i + 1 =>
    have hn := nx_le hP (show i < l.length by omega)
    show ni l i :: up l f (nx l i) = ni l i :: up l i (nx l i)
    rw [up_fuel hP f (nx l i) (by omega) (by omega), up_fuel hP i (nx l i) hn (by omega)]
termination_by f
theorem up_suc {l : Rws} (hP : ∀ i, i < l.length → Pa l i) {i : Nat} (hi : i < l.length) : up l (i + 1) (i + 1) = ni l i :: up l (nx l i) (nx l i) := by
  show ni l i :: up l i (nx l i) = _
  have hn := nx_le hP hi
  rw [up_fuel hP i (nx l i) hn (by omega)]
theorem up_len (l : Rws) : ∀ f s, (up l f s).length ≤ f
  | 0, _ => Nat.le_refl 0
  | _ + 1, 0 => Nat.zero_le _
  | f + 1, i + 1 => by
    show (up l f (nx l i)).length + 1 ≤ f + 1
    have := up_len l f (nx l i); omega
theorem getD_rev (L : List Int) (q : Nat) (h : q < L.length) : L.reverse.getD q 0 = L.getD (L.length - 1 - q) 0 := by
  rw [List.getD_eq_getElem?_getD, List.getD_eq_getElem?_getD, List.getElem?_reverse h]
theorem rev_of {L M : List Int} (hl : M.length = L.length) (h : ∀ q, q < L.length → M.getD q 0 = L.getD (L.length - 1 - q) 0) : M = L.reverse := by
  refine List.ext_getElem (by rw [hl, List.length_reverse]) fun q h1 h2 => ?_
  have e := h q (by omega)
  rw [← getD_rev L q (by omega)] at e
  rw [List.getD_eq_getElem?_getD, List.getD_eq_getElem?_getD, List.getElem?_eq_getElem h1, List.getElem?_eq_getElem h2] at e
  exact e
def pth (l : Rws) (j : Nat) : List Int := (up l (j + 1) (j + 1)).reverse
set_option maxHeartbeats 8000000 in
theorem path_ok (l : Rws) (j : Nat) (hj : j < l.length) (hR : RV l) (hs : ∀ i, i < l.length → (nt l i).length ≤ 9223372036854775807) : SemF Try.prog 22 [.slc 0 5 0 l.length, .int .i64 (ni l j)] ⟨1, 1, [(0, .arr [.int .i64, .int .i64, .int .i64, .int .i64, .str] .rd (.recs l))]⟩ (fun v h' => v = .tup [.grw 1 (pth l j).length, .int .i64 0] ∧ h' = ⟨2, 1, [(1, .arr [.int .i64] .grow (.ints (pth l j)))]⟩) := by
  have hl4 := hR.1.2
  have hl : l.length ≤ 9223372036854775807 := by omega
  refine SemF.ret ?_
  refine enter tt_ok Try.func22 (nt := 40) (cd := body Try.f22) rfl rfl rfl rfl ?_
  intro _
  refine enter tt_ok Try.func37 (nt := 34) (cd := body Try.f37) rfl rfl rfl rfl ?_
  intro _
  refine enter tt_ok Try.func39 (nt := 128) (cd := body Try.f39) rfl rfl rfl rfl ?_
  intro _; refine ⟨fun g => ?_, fun g => ?_⟩
  · have g : (l.length : Int) = 0 := eq_of_beq (show ((l.length : Int) == 0) = true from g)
    exact absurd hR (fun h : RV l => by have := h.1.1; omega)
  have n1 : 1 ≤ l.length := by
    refine Nat.pos_of_ne_zero fun e => ?_
    have g : ((l.length : Int) == 0) = false := g
    rw [e] at g; cases g
  intro _; refine ⟨fun g => ?_, fun g => ?_⟩
  · have g := of_decide_eq_true (show decide ((l.length : Int) > 4000) = true from g)
    exact absurd hR (fun h : RV l => by have := h.1.2; omega)
  have n2 := of_decide_eq_false (show decide ((l.length : Int) > 4000) = false from g)
  intro _; refine ⟨⟨by omega, by omega, by show 8 * l.length ≤ _; omega⟩, ?_⟩
  intro _; refine ⟨rfl, ?_⟩
  intro _; refine ⟨by kernel_rfl, ?_⟩
  intro _
  refine loop2 tt_ok [30] [1, 2] 4 (fun k : { k : Nat // k ≤ l.length ∧ ∀ i, i < k → Gk l i } => [(30, .int .i64 (k.1 : Nat))]) (fun k => [(1, .map .i64 [.int .i64] false (gm l k.1)), (2, .arr [.int .i64] .own (.ints (gd l k.1)))]) (fun k => l.length - k.1) ⟨0, by omega, fun i h => by omega⟩ ?_
  intro _
  refine ⟨⟨th [] 4, rfl, rfl, rfl, rfl, rfl, rfl, ?_, ?_⟩, ?_⟩
  · (repeat' first | exact trivial | exact rfl | refine And.intro ?_ ?_)
  · (repeat' first | exact trivial | exact rfl | refine And.intro ?_ ?_)
  intro ⟨k, hk, hm⟩
  have z : 0 + k = k := Nat.zero_add k
  have hgl := gd_len l k
  have hu : ∀ i, i < k → fi l (ni l i) i = i := fun i hi => (hm i hi).1.1.2
  intro _; refine ⟨fun g => ?_, fun g => ?_⟩
  rotate_left
  · have hkl := of_decide_eq_false (show decide ((k : Int) < (l.length : Int)) = false from g)
    obtain rfl : k = l.length := by omega
    intro _
    intro _
    refine gid_test _ _ _ ?_
    have hid := (hR.2.1 j hj).1.1
    have hf := gm_at hR hj
    intro _; refine ⟨fun g => ?_, fun _ => ?_⟩
    · exfalso
      have g : (!decide (1 ≤ ni l j ∧ ni l j ≤ 1000000)) = true := g
      rw [decide_eq_true hid] at g; cases g
    intro _; refine ⟨fun g => ?_, fun _ => ?_⟩
    · exfalso
      have g : (!(mfind (gm l l.length) (ni l j)).isSome) = true := g
      rw [hf] at g; cases g
    have hPl : ∀ i, i < l.length → Pa l i := hR.2.2.1
    have hul := up_len l (j + 1) (j + 1)
    intro _
    intro _; refine ⟨fun g => absurd g (by decide), fun _ => ?_⟩
    intro _
    refine loop2 tt_ok [1, 8] [4] 5 (fun p : { p : Nat × List Int // p.1 ≤ l.length ∧ p.2 ++ up l p.1 p.1 = up l (j + 1) (j + 1) } => [(1, .int .i64 (sid l p.1.1)), (8, .grw 4 p.1.2.length)]) (fun p => [(4, .arr [.int .i64] .grow (.ints p.1.2))]) (fun p => p.1.1) ⟨(j + 1, []), by omega, rfl⟩ ?_
    intro _
    refine ⟨⟨th [(4, none)] 5, rfl, rfl, rfl, rfl, rfl, rfl, ?_, ?_⟩, ?_⟩
    · (repeat' first | exact trivial | exact rfl | refine And.intro ?_ ?_)
    · (repeat' first | exact trivial | exact rfl | refine And.intro ?_ ?_)
    intro ⟨(s, acc), hsl, hac⟩
    have hsl : s ≤ l.length := hsl
    have hac : acc ++ up l s s = up l (j + 1) (j + 1) := hac
    have hal : acc.length ≤ 4000 := by
      have e := congrArg List.length hac
      rw [List.length_append] at e; omega
    intro _; refine ⟨fun g => ?_, fun g => ?_⟩
    · have g := bne_iff_ne.1 (show (sid l s != 0) = true from g)
      obtain ⟨i, rfl⟩ : ∃ i, s = i + 1 := ⟨s - 1, by
        have : s ≠ 0 := fun e => g (by rw [e]; rfl)
        omega⟩
      have hi : i < l.length := by omega
      have hfi := gm_at hR hi
      have eE : ((((mfind (gm l l.length) (sid l (i + 1))).getD [D.n 0]).getD 0 (D.n 0)).int) = ((i : Nat) : Int) := by
        show ((((mfind (gm l l.length) (ni l i)).getD [D.n 0]).getD 0 (D.n 0)).int) = _
        rw [hfi]; rfl
      intro _; refine ⟨rfl, ?_⟩
      intro _; refine ⟨fun g3 => by simp at g3, fun _ => ?_⟩
      refine ⟨⟨rfl, by show acc.length + 1 ≤ _; omega, by show (acc.length + 1) * 8 ≤ _; omega⟩, ?_⟩
      intro _; refine ⟨show 0 ≤ ((((mfind (gm l l.length) (sid l (i + 1))).getD [D.n 0]).getD 0 (D.n 0)).int) ∧ ((((mfind (gm l l.length) (sid l (i + 1))).getD [D.n 0]).getD 0 (D.n 0)).int) < (l.length : Int) by rw [eE]; omega, ?_⟩
      intro _; refine ⟨show 0 + ((((mfind (gm l l.length) (sid l (i + 1))).getD [D.n 0]).getD 0 (D.n 0)).int).toNat < l.length by rw [eE]; omega, ?_⟩
      intro _; refine ⟨by kernel_rfl, ?_⟩
      have hnx := nx_le hPl hi
      refine ⟨⟨(nx l i, acc ++ [ni l i]), by show nx l i ≤ l.length; omega, ?_⟩, by show nx l i < i + 1; omega, th [(4, some 6)] 5, rfl, rfl, rfl, rfl, rfl, rfl, ?_, ?_⟩
      · show (acc ++ [ni l i]) ++ up l (nx l i) (nx l i) = _
        rw [← hac, up_suc hPl hi, List.append_assoc]; rfl
      · (repeat' first | exact trivial | exact rfl | refine And.intro ?_ ?_)
        · show sid l (nx l i) = np l (0 + ((((mfind (gm l l.length) (sid l (i + 1))).getD [D.n 0]).getD 0 (D.n 0)).int).toNat)
          rw [eE, Nat.zero_add, sid_nx hPl hi]; rfl
        · show (acc ++ [ni l i]).length = acc.length + 1
          rw [List.length_append]; rfl
      · (repeat' first | exact trivial | exact rfl | refine And.intro ?_ ?_)
    have g : (sid l s != 0) = false := g
    have hs0 : s = 0 := by
      refine Decidable.byContradiction fun c => ?_
      obtain ⟨i, rfl⟩ : ∃ i, s = i + 1 := ⟨s - 1, by omega⟩
      have := (hR.2.1 i (by omega)).1.1
      have g : ni l i = 0 := by simpa [sid] using g
      omega
    subst hs0
    have hacc : acc = up l (j + 1) (j + 1) := by rw [← hac]; exact (List.append_nil acc).symm
    have hne : 1 ≤ acc.length := by rw [hacc, up_suc hPl hj]; exact Nat.succ_le_succ (Nat.zero_le _)
    intro _
    refine enter tt_ok Try.func38 (nt := 28) (cd := body Try.f38) rfl rfl rfl rfl ?_
    intro _
    refine loop2 tt_ok [2, 3] [4] 5 (fun p : { p : Nat × List Int // p.2.length = acc.length ∧ 2 * p.1 ≤ acc.length ∧ ∀ q, q < acc.length → p.2.getD q 0 = if q < p.1 ∨ acc.length ≤ q + p.1 then acc.getD (acc.length - 1 - q) 0 else acc.getD q 0 } => [(2, .int .i64 (p.1.1 : Nat)), (3, .int .i64 ((acc.length : Int) - 1 - (p.1.1 : Nat)))]) (fun p => [(4, .arr [.int .i64] .grow (.ints p.1.2))]) (fun p => acc.length - p.1.1) ⟨(0, acc), rfl, by omega, fun q hq => by rw [if_neg (by omega)]⟩ ?_
    intro _
    refine ⟨⟨th [] 5, rfl, rfl, rfl, rfl, rfl, rfl, ?_, ?_⟩, ?_⟩
    · (repeat' first | exact trivial | exact rfl | refine And.intro ?_ ?_)
      show (acc.length : Int) - 1 - ((0 : Nat) : Int) = IntKind.i64.wrap ((acc.length : Int) - 1)
      rw [wrapS _ ⟨by omega, by omega⟩]; omega
    · (repeat' first | exact trivial | exact rfl | refine And.intro ?_ ?_)
    intro ⟨(k, M), hMl, hk, hM⟩
    have hMl : M.length = acc.length := hMl
    have hk : 2 * k ≤ acc.length := hk
    have hM : ∀ q, q < acc.length → M.getD q 0 = if q < k ∨ acc.length ≤ q + k then acc.getD (acc.length - 1 - q) 0 else acc.getD q 0 := hM
    intro _; refine ⟨fun g => ?_, fun g => ?_⟩
    · have g := of_decide_eq_true (show decide ((k : Int) < (acc.length : Int) - 1 - (k : Nat)) = true from g)
      have c1 : 0 ≤ (acc.length : Int) - 1 - (k : Nat) ∧ (acc.length : Int) - 1 - (k : Nat) < (acc.length : Int) := by omega
      have b2 : ((acc.length : Int) - 1 - (k : Nat)).toNat < M.length := by omega
      have c3 : 0 ≤ (k : Int) ∧ (k : Int) < (acc.length : Int) := by omega
      have b4 : (k : Int).toNat < M.length := by omega
      have ej : ((acc.length : Int) - 1 - (k : Nat)).toNat = acc.length - 1 - k := by omega
      have e0 : (k : Int).toNat = k := Int.toNat_natCast k
      intro _; refine ⟨c1, ?_⟩
      intro _; refine ⟨b2, ?_⟩
      intro _; refine ⟨c3, ?_⟩
      intro _; refine ⟨b4, ?_⟩
      intro _; refine ⟨c3, ?_⟩
      intro _; refine ⟨b4, ?_⟩
      intro _; refine ⟨c1, ?_⟩
      intro _; refine ⟨show ((acc.length : Int) - 1 - (k : Nat)).toNat < (M.set (k : Int).toNat (M.getD ((acc.length : Int) - 1 - (k : Nat)).toNat 0)).length by rw [List.length_set]; exact b2, ?_⟩
      intro _; refine ⟨by kernel_rfl, ?_⟩
      refine ⟨⟨(k + 1, (M.set k (M.getD (acc.length - 1 - k) 0)).set (acc.length - 1 - k) (M.getD k 0)), by show ((M.set k (M.getD (acc.length - 1 - k) 0)).set (acc.length - 1 - k) (M.getD k 0)).length = _; rw [List.length_set, List.length_set]; exact hMl, by show 2 * (k + 1) ≤ acc.length; omega, fun q hq => ?_⟩, by show acc.length - (k + 1) < acc.length - k; omega, th [] 5, rfl, rfl, rfl, rfl, rfl, rfl, ?_, ?_⟩
      · show ((M.set k (M.getD (acc.length - 1 - k) 0)).set (acc.length - 1 - k) (M.getD k 0)).getD q 0 = if q < k + 1 ∨ acc.length ≤ q + (k + 1) then acc.getD (acc.length - 1 - q) 0 else acc.getD q 0
        have h1 := hM k (by omega)
        rw [if_neg (by omega)] at h1
        have h2 := hM (acc.length - 1 - k) (by omega)
        rw [if_neg (by omega)] at h2
        rw [set_get (by rw [List.length_set]; omega), h1]
        by_cases d : acc.length - 1 - k = q
        · rw [if_pos d, if_pos (by omega)]
          have e : acc.length - 1 - q = k := by omega
          rw [e]
        · rw [if_neg d, set_get (by omega), h2]
          by_cases c : k = q
          · subst c; rw [if_pos rfl, if_pos (by omega)]
          · rw [if_neg c, hM q hq]
            by_cases x : q < k ∨ acc.length ≤ q + k
            · rw [if_pos x, if_pos (by omega)]
            · rw [if_neg x, if_neg (by omega)]
      · (repeat' first | exact trivial | exact rfl | refine And.intro ?_ ?_)
        · exact (wrap_nat k (by omega)).symm
        · show (acc.length : Int) - 1 - ((k + 1 : Nat) : Int) = IntKind.i64.wrap ((acc.length : Int) - 1 - (k : Nat) - 1)
          rw [wrapS _ ⟨by omega, by omega⟩]; omega
      · (repeat' first | exact trivial | exact rfl | refine And.intro ?_ ?_)
        show (M.set k (M.getD (acc.length - 1 - k) 0)).set (acc.length - 1 - k) (M.getD k 0) = (M.set (k : Int).toNat (M.getD ((acc.length : Int) - 1 - (k : Nat)).toNat 0)).set ((acc.length : Int) - 1 - (k : Nat)).toNat (M.getD (k : Int).toNat 0)
        rw [ej, e0]
    have g := of_decide_eq_false (show decide ((k : Int) < (acc.length : Int) - 1 - (k : Nat)) = false from g)
    have hE : M = pth l j := by
      rw [pth, ← hacc]
      refine rev_of hMl fun q hq => ?_
      rw [hM q hq]
      by_cases c : q < k ∨ acc.length ≤ q + k
      · rw [if_pos c]
      · rw [if_neg c]
        have e : acc.length - 1 - q = q := by omega
        rw [e]
    have hpl : (pth l j).length = acc.length := by rw [← hE]; exact hMl
    intro _
    intro _
    refine ⟨[(1, some 4)], .tup [.grw 1 (pth l j).length, .int .i64 0], ⟨2, 1, [(1, .arr [.int .i64] .grow (.ints (pth l j)))]⟩, rfl, rfl, rfl, rfl, ?_, ?_, ⟨rfl, rfl⟩⟩
    · rw [hpl]; (repeat' first | exact trivial | exact rfl | refine And.intro ?_ ?_)
    · rw [← hE]; (repeat' first | exact trivial | exact rfl | refine And.intro ?_ ?_)

  have hkl := of_decide_eq_true (show decide ((k : Int) < (l.length : Int)) = true from g)
  have i1 : 0 ≤ (k : Int) ∧ (k : Int) < (l.length : Int) := by omega
  have i2 : 0 + (k : Int).toNat < l.length := by omega
  have ek := (wrap_nat k (by omega)).symm
  have hf1 := gm_find (l := l) (ni l k) k hu
  have hle := fi_le l (ni l k) k
  intro _; refine ⟨i1, ?_⟩
  intro _; refine ⟨i2, ?_⟩
  intro _; refine ⟨by kernel_rfl, ?_⟩
  intro _; refine ⟨fun g => ?_, fun g => ?_⟩
  · have g : (mfind (gm l k) (ni l (0 + k))).isSome = true := g
    rw [z, hf1] at g
    have c : fi l (ni l k) k < k := by
      refine Decidable.byContradiction fun c => ?_
      rw [if_neg c] at g; cases g
    exact absurd hR (fun h : RV l => by have := (h.2.1 k (by omega)).2; omega)
  have g : (mfind (gm l k) (ni l (0 + k))).isSome = false := g
  rw [z, hf1] at g
  have huk : fi l (ni l k) k = k := by
    refine Nat.le_antisymm hle (Nat.le_of_not_lt fun c => ?_)
    rw [if_pos c] at g; cases g
  have hu1 : ∀ i, i < k + 1 → fi l (ni l i) i = i := fun i hi => by
    by_cases c : i = k
    · subst c; exact huk
    · exact hu i (by omega)
  intro _
  refine call_pure [] (node_ok (ni l (0 + k)) (np l (0 + k)) (nk l (0 + k)) (nc l (0 + k)) (nt l (0 + k)) (by rw [z]; exact hs k (by omega))) rfl rfl rfl ?_ ?_ ?_
  · (repeat' first | exact trivial | exact rfl | refine And.intro ?_ ?_)
  · (repeat' first | exact trivial | exact rfl | refine And.intro ?_ ?_)
  intro v hv _
  subst hv
  intro _; refine ⟨fun g => ?_, fun g => ?_⟩
  · have g : (!decide (Nd (ni l (0 + k)) (np l (0 + k)) (nk l (0 + k)) (nc l (0 + k)) (nt l (0 + k)))) = true := g
    rw [z, Bool.not_eq_true'] at g
    have g := of_decide_eq_false g
    exact absurd hR (fun h : RV l => g (h.2.1 k (by omega)).1)
  have g : (!decide (Nd (ni l (0 + k)) (np l (0 + k)) (nk l (0 + k)) (nc l (0 + k)) (nt l (0 + k)))) = false := g
  rw [z, Bool.not_eq_false'] at g
  have gN := of_decide_eq_true g
  intro _; refine ⟨by kernel_rfl, ?_⟩
  intro _; refine ⟨i1, ?_⟩
  intro _; refine ⟨show (k : Int).toNat < (gd l k).length by omega, ?_⟩
  intro _; refine ⟨fun g => ?_, fun g => ?_⟩
  · have g0 : (k : Int) = 0 := eq_of_beq (show ((k : Int) == 0) = true from g)
    obtain rfl : k = 0 := by omega
    intro _; refine ⟨fun g => ?_, fun g => ?_⟩
    · have g := bne_iff_ne.1 (show (nk l (0 + 0) != 1) = true from g)
      exact absurd hR (fun h : RV l => g ((h.2.2.1 0 (by omega)).1 rfl).2)
    have gk : nk l 0 = 1 := by
      have g : (nk l (0 + 0) != 1) = false := g
      simpa using g
    intro _; refine ⟨fun g => ?_, fun g => ?_⟩
    · have g := bne_iff_ne.1 (show (np l (0 + 0) != 0) = true from g)
      exact absurd hR (fun h : RV l => g ((h.2.2.1 0 (by omega)).1 rfl).1)
    have gp : np l 0 = 0 := by
      have g : (np l (0 + 0) != 0) = false := g
      simpa using g
    refine ⟨⟨1, by omega, fun i hi => ?_⟩, by show l.length - 1 < l.length - 0; omega, th [] 4, rfl, rfl, rfl, rfl, rfl, rfl, ?_, ?_⟩
    · obtain rfl : i = 0 := by omega
      exact ⟨⟨⟨gN, huk⟩, fun _ => ⟨gp, gk⟩, fun h => by omega⟩, by rw [dp_zero]; decide⟩
    · (repeat' first | exact trivial | exact rfl | refine And.intro ?_ ?_)
    · (repeat' first | exact trivial | exact rfl | refine And.intro ?_ ?_)
  have gk0 : ¬ k = 0 := fun e => by
    have g : ((k : Int) == 0) = false := g
    rw [e] at g; cases g
  have hf2 := gm_find (l := l) (np l k) (k + 1) hu1
  have hpe : fi l (np l k) (k + 1) = if pr l k < k then pr l k else if ni l k = np l k then k else k + 1 := rfl
  have eM : mput (gm l k) (ni l (0 + k)) [D.n (k : Nat)] = gm l (k + 1) := by rw [z]; rfl
  intro _; refine ⟨by kernel_rfl, ?_⟩
  have eL : mfind (mput (gm l k) (ni l (0 + k)) [D.n (k : Nat)]) (np l (0 + k)) = if fi l (np l k) (k + 1) < k + 1 then some [D.n ((fi l (np l k) (k + 1) : Nat) : Int)] else none := by rw [eM, z]; exact hf2
  intro _; refine ⟨fun g => ?_, fun g => ?_⟩
  · have g : (!(mfind (mput (gm l k) (ni l (0 + k)) [D.n (k : Nat)]) (np l (0 + k))).isSome) = true := g
    rw [eL, hpe] at g
    have hp : ¬ pr l k < k := fun c => by
      rw [if_pos c, if_pos (by omega)] at g; cases g
    intro _; refine ⟨by kernel_rfl, ?_⟩
    exact absurd hR (fun h : RV l => hp ((h.2.2.1 k (by omega)).2 (by omega)).1)
  have g : (!(mfind (mput (gm l k) (ni l (0 + k)) [D.n (k : Nat)]) (np l (0 + k))).isSome) = false := g
  rw [eL, hpe] at g
  by_cases hp : pr l k < k
  rotate_left
  · have hself : ni l k = np l k := by
      refine Decidable.byContradiction fun c => ?_
      rw [if_neg hp, if_neg c, if_neg (by omega)] at g; cases g
    have eE : ((((mfind (mput (gm l k) (ni l (0 + k)) [D.n (k : Nat)]) (np l (0 + k))).getD [D.n 0]).getD 0 (D.n 0)).int) = ((k : Nat) : Int) := by rw [eL, hpe, if_neg hp, if_pos hself, if_pos (by omega)]; rfl
    intro _; refine ⟨fun _ => ?_, fun g => ?_⟩
    · intro _; refine ⟨by kernel_rfl, ?_⟩
      exact absurd hR (fun h : RV l => hp ((h.2.2.1 k (by omega)).2 (by omega)).1)
    · exfalso
      have g : (((((mfind (mput (gm l k) (ni l (0 + k)) [D.n (k : Nat)]) (np l (0 + k))).getD [D.n 0]).getD 0 (D.n 0)).int) == ((k : Nat) : Int)) = false := g
      rw [eE] at g
      simp at g
  have eE : ((((mfind (mput (gm l k) (ni l (0 + k)) [D.n (k : Nat)]) (np l (0 + k))).getD [D.n 0]).getD 0 (D.n 0)).int) = ((pr l k : Nat) : Int) := by rw [eL, hpe, if_pos hp, if_pos (by omega)]; rfl
  intro _; refine ⟨fun g => ?_, fun _ => ?_⟩
  · exfalso
    have g : ((((mfind (mput (gm l k) (ni l (0 + k)) [D.n (k : Nat)]) (np l (0 + k))).getD [D.n 0]).getD 0 (D.n 0)).int) = ((k : Nat) : Int) := eq_of_beq (show (((((mfind (mput (gm l k) (ni l (0 + k)) [D.n (k : Nat)]) (np l (0 + k))).getD [D.n 0]).getD 0 (D.n 0)).int) == ((k : Nat) : Int)) = true from g)
    rw [eE] at g
    omega
  intro _; refine ⟨show 0 ≤ ((((mfind (mput (gm l k) (ni l (0 + k)) [D.n (k : Nat)]) (np l (0 + k))).getD [D.n 0]).getD 0 (D.n 0)).int) ∧ ((((mfind (mput (gm l k) (ni l (0 + k)) [D.n (k : Nat)]) (np l (0 + k))).getD [D.n 0]).getD 0 (D.n 0)).int) < (l.length : Int) by rw [eE]; omega, ?_⟩
  intro _; refine ⟨show 0 + ((((mfind (mput (gm l k) (ni l (0 + k)) [D.n (k : Nat)]) (np l (0 + k))).getD [D.n 0]).getD 0 (D.n 0)).int).toNat < l.length by rw [eE]; omega, ?_⟩
  intro _; refine Or.inl ?_
  intro _
  refine call_pure [] (cans_ok (nk l k) (nk l (pr l k))) rfl rfl rfl ?_ ?_ ?_
  · (repeat' first | exact trivial | exact rfl | refine And.intro ?_ ?_)
  · (repeat' first | exact trivial | exact rfl | refine And.intro ?_ ?_)
    show nk l k = nk l (0 + k)
    rw [z]
    show nk l (pr l k) = nk l (0 + ((((mfind (mput (gm l k) (ni l (0 + k)) [D.n (k : Nat)]) (np l (0 + k))).getD [D.n 0]).getD 0 (D.n 0)).int).toNat)
    rw [eE, Nat.zero_add]; rfl
  intro v hv _
  subst hv
  intro _; refine ⟨fun g => ?_, fun g => ?_⟩
  · have g : (!decide (St (nk l k) (nk l (pr l k)))) = true := g
    rw [Bool.not_eq_true'] at g
    have g := of_decide_eq_false g
    intro _; refine ⟨by kernel_rfl, ?_⟩
    exact absurd hR (fun h : RV l => g ((h.2.2.1 k (by omega)).2 (by omega)).2)
  have g : (!decide (St (nk l k) (nk l (pr l k)))) = false := g
  rw [Bool.not_eq_false'] at g
  have gS := of_decide_eq_true g
  have hPk : Pa l k := ⟨fun e => absurd e gk0, fun _ => ⟨hp, gS⟩⟩
  have hds := dp_suc (l := l) (i := k) (by omega) hp
  have hgp := gd_get (l := l) k hk (fun i hi => (hm i hi).1.2) (pr l k) hp
  have eg1 : ((gd l k).set k 1).getD (pr l k) 0 = dp l (pr l k) := by rw [set_get (by omega), if_neg (by omega)]; exact hgp
  have hd30 := (hm (pr l k) hp).2
  have hb := ds_bd l k (pr l k)
  rw [ds_get l k _ hp] at hb
  intro _; refine ⟨show 0 ≤ ((((mfind (mput (gm l k) (ni l (0 + k)) [D.n (k : Nat)]) (np l (0 + k))).getD [D.n 0]).getD 0 (D.n 0)).int) ∧ ((((mfind (mput (gm l k) (ni l (0 + k)) [D.n (k : Nat)]) (np l (0 + k))).getD [D.n 0]).getD 0 (D.n 0)).int) < (l.length : Int) by rw [eE]; omega, ?_⟩
  intro _; refine ⟨show ((((mfind (mput (gm l k) (ni l (0 + k)) [D.n (k : Nat)]) (np l (0 + k))).getD [D.n 0]).getD 0 (D.n 0)).int).toNat < ((gd l k).set k 1).length by rw [eE, List.length_set]; omega, ?_⟩
  intro _; refine ⟨by kernel_rfl, ?_⟩
  intro _; refine ⟨fun g => ?_, fun g => ?_⟩
  · have g : ((gd l k).set k 1).getD ((((mfind (mput (gm l k) (ni l (0 + k)) [D.n (k : Nat)]) (np l (0 + k))).getD [D.n 0]).getD 0 (D.n 0)).int).toNat 0 = 30 := eq_of_beq (show (((gd l k).set k 1).getD ((((mfind (mput (gm l k) (ni l (0 + k)) [D.n (k : Nat)]) (np l (0 + k))).getD [D.n 0]).getD 0 (D.n 0)).int).toNat 0 == 30) = true from g)
    rw [eE, Int.toNat_natCast, eg1] at g
    exact absurd hR (fun h : RV l => by have := h.2.2.2 k (by omega); omega)
  have g : (((gd l k).set k 1).getD ((((mfind (mput (gm l k) (ni l (0 + k)) [D.n (k : Nat)]) (np l (0 + k))).getD [D.n 0]).getD 0 (D.n 0)).int).toNat 0 == 30) = false := g
  rw [eE, Int.toNat_natCast, eg1] at g
  have g30 : ¬ dp l (pr l k) = 30 := fun e => by rw [e] at g; cases g
  intro _; refine ⟨show 0 ≤ ((((mfind (mput (gm l k) (ni l (0 + k)) [D.n (k : Nat)]) (np l (0 + k))).getD [D.n 0]).getD 0 (D.n 0)).int) ∧ ((((mfind (mput (gm l k) (ni l (0 + k)) [D.n (k : Nat)]) (np l (0 + k))).getD [D.n 0]).getD 0 (D.n 0)).int) < (l.length : Int) by rw [eE]; omega, ?_⟩
  intro _; refine ⟨show ((((mfind (mput (gm l k) (ni l (0 + k)) [D.n (k : Nat)]) (np l (0 + k))).getD [D.n 0]).getD 0 (D.n 0)).int).toNat < ((gd l k).set k 1).length by rw [eE, List.length_set]; omega, ?_⟩
  intro _; refine ⟨i1, ?_⟩
  intro _; refine ⟨show (k : Int).toNat < ((gd l k).set k 1).length by rw [List.length_set]; omega, ?_⟩
  intro _; refine ⟨by kernel_rfl, ?_⟩
  refine ⟨⟨k + 1, by omega, fun i hi => ?_⟩, by show l.length - (k + 1) < l.length - k; omega, th [] 4, rfl, rfl, rfl, rfl, rfl, rfl, ?_, ?_⟩
  · by_cases c : i = k
    · subst c; exact ⟨⟨⟨gN, huk⟩, hPk⟩, by omega⟩
    · exact hm i (by omega)
  · (repeat' first | exact trivial | exact rfl | refine And.intro ?_ ?_)
    exact ek
  · (repeat' first | exact trivial | exact rfl | refine And.intro ?_ ?_)
    · exact eM.symm
    · show (if k = 0 then (gd l k).set k 1 else ((gd l k).set k 1).set k (((gd l k).set k 1).getD (pr l k) 0 + 1)) = ((gd l k).set k 1).set k (IntKind.i64.wrap (((gd l k).set k 1).getD ((((mfind (mput (gm l k) (ni l (0 + k)) [D.n (k : Nat)]) (np l (0 + k))).getD [D.n 0]).getD 0 (D.n 0)).int).toNat 0 + 1))
      rw [eE, Int.toNat_natCast, if_neg gk0, wrapS _ ⟨by omega, by omega⟩]
theorem app_get {T : Rws} {r : List D} {j : Nat} (h : j < T.length) : (T ++ [r]).getD j [] = T.getD j [] := by
  rw [List.getD_eq_getElem?_getD, List.getElem?_append_left h, ← List.getD_eq_getElem?_getD]
theorem app_last (T : Rws) (r : List D) : (T ++ [r]).getD T.length [] = r := by
  rw [List.getD_eq_getElem?_getD, List.getElem?_append_right (Nat.le_refl _), Nat.sub_self]; rfl
theorem app_FFb {l T : Rws} {r : List D} {i j : Nat} (h : j < T.length) : FFb l (T ++ [r]) i j = FFb l T i j := by
  unfold FFb tk tc ti; rw [app_get h]
theorem app_tb {T : Rws} {r : List D} {j : Nat} (h : j < T.length) : tb (T ++ [r]) j = tb T j := by
  unfold tb; rw [app_get h]
theorem pre_bits {l T : Rws} (r : List D) (hP : ∀ i, i < l.length → Pa l i) (i : Nat) (hi : i < l.length) :
    (∀ j, j < T.length → Nat.testBit (ak l (T ++ [r]) i) j = Nat.testBit (ak l T i) j) ∧ (∀ j, j < T.length → Nat.testBit (pk l (T ++ [r]) i) j = Nat.testBit (pk l T i) j) ∧ ∀ j, j < T.length → Nat.testBit (om l (T ++ [r]) i) j = Nat.testBit (om l T i) j := by
  have h12 : (∀ j, j < T.length → Nat.testBit (ak l (T ++ [r]) i) j = Nat.testBit (ak l T i) j) ∧ (∀ j, j < T.length → Nat.testBit (pk l (T ++ [r]) i) j = Nat.testBit (pk l T i) j) := by
    by_cases c : i = 0
    · subst c; exact ⟨fun _ _ => rfl, fun _ _ => rfl⟩
    · have hp := ((hP i hi).2 (by omega)).1
      obtain ⟨q1, _, q2⟩ := pre_bits r hP (pr l i) (by omega)
      obtain ⟨a1, a2⟩ := pk_pr (T := T ++ [r]) (show 0 < i by omega) hp
      obtain ⟨b1, b2⟩ := pk_pr (T := T) (show 0 < i by omega) hp
      refine ⟨fun j hj => ?_, fun j hj => ?_⟩
      · rw [a2, b2, Nat.testBit_or, Nat.testBit_or, q1 j hj, q2 j hj]
      · rw [a1, b1, q2 j hj]
  refine ⟨h12.1, h12.2, fun j hj => ?_⟩
  unfold om
  rw [okm_bit, okm_bit, app_FFb hj, app_tb hj, decide_eq_true hj, decide_eq_true (show j < (T ++ [r]).length by rw [List.length_append]; omega)]
  by_cases c : j = 0
  · subst c; rfl
  · cases tb T j with
    | true =>
      rw [if_pos rfl, if_pos rfl, h12.2 (j - 1) (by omega)]
    | false =>
      rw [if_neg (by decide), if_neg (by decide), h12.1 (j - 1) (by omega)]
termination_by i
theorem ni_inj {l : Rws} (hR : RV l) {p q : Nat} (hp : p < l.length) (hq : q < l.length) (h : ni l p = ni l q) : p = q := by
  have e1 := fi_at hR hp
  rw [h, fi_at hR hq] at e1; exact e1.symm
theorem mem_il {l T : Rws} (hR : RV l) {p : Nat} (hp : p < l.length) : decide (ni l p ∈ il l T l.length) = mt l T p := by
  cases c : mt l T p with
  | true => exact decide_eq_true ((il_mem _).2 ⟨p, hp, c, rfl⟩)
  | false =>
    refine decide_eq_false fun h => ?_
    obtain ⟨q, hq, h1, h2⟩ := (il_mem _).1 h
    rw [← ni_inj hR hp hq h2, c] at h1; cases h1
theorem up_zero (l : Rws) : up l 0 0 = [] := rfl
theorem nx_pos {l : Rws} {i : Nat} (h : 0 < i) : nx l i = pr l i + 1 := if_neg (by omega)
theorem ak_up {l T : Rws} (hR : RV l) (i : Nat) (hi : i < l.length) : Nat.testBit (ak l T i) (T.length - 1) = (up l (nx l i) (nx l i)).any (fun x => decide (x ∈ il l T l.length)) := by
  by_cases c : i = 0
  · subst c; show Nat.testBit 0 _ = List.any (up l 0 0) _; rw [Nat.zero_testBit]; rfl
  · have hp := ((hR.2.2.1 i hi).2 (by omega)).1
    rw [(pk_pr (T := T) (show 0 < i by omega) hp).2, Nat.testBit_or, ak_up hR (pr l i) (by omega), nx_pos (show 0 < i by omega), up_suc hR.2.2.1 (show pr l i < l.length by omega), List.any_cons, mem_il hR (show pr l i < l.length by omega), Bool.or_comm]; rfl
termination_by i
theorem pk_up {l T : Rws} (hR : RV l) (i : Nat) (hi : i < l.length) : Nat.testBit (pk l T i) (T.length - 1) = (0 < (up l (nx l i) (nx l i)).length && decide ((up l (nx l i) (nx l i)).getD 0 0 ∈ il l T l.length)) := by
  by_cases c : i = 0
  · subst c; show Nat.testBit 0 _ = (decide (0 < (up l 0 0).length) && _); rw [Nat.zero_testBit, up_zero]; rfl
  · have hp := ((hR.2.2.1 i hi).2 (by omega)).1
    rw [(pk_pr (T := T) (show 0 < i by omega) hp).1, nx_pos (show 0 < i by omega), up_suc hR.2.2.1 (show pr l i < l.length by omega)]
    show mt l T (pr l i) = (decide (0 < (up l (nx l (pr l i)) (nx l (pr l i))).length + 1) && decide (ni l (pr l i) ∈ il l T l.length))
    rw [mem_il hR (show pr l i < l.length by omega), decide_eq_true (Nat.succ_pos _), Bool.true_and]
/-- what the law finds above a node, after so many of its path -/
def ab (P S : List Int) (b : Bool) : Nat → Bool
  | 0 => false
  | k + 1 => ab P S b k || (decide (P.getD k 0 ∈ S) && (!b || decide (k + 2 = P.length)))
theorem ab_iff {P S : List Int} {b : Bool} : ∀ k, ab P S b k = true ↔ ∃ q, q < k ∧ P.getD q 0 ∈ S ∧ (b = true → q + 2 = P.length)
  | 0 => ⟨fun h => (Bool.false_ne_true h).elim, fun ⟨q, h, _⟩ => by omega⟩
  | k + 1 => by
    have ih := ab_iff (P := P) (S := S) (b := b) k
    show (ab P S b k || (decide (P.getD k 0 ∈ S) && (!b || decide (k + 2 = P.length)))) = true ↔ _
    rw [Bool.or_eq_true, ih, Bool.and_eq_true, decide_eq_true_iff, Bool.or_eq_true, Bool.not_eq_true', decide_eq_true_iff]
    constructor
    · rintro (⟨q, h1, h2⟩ | ⟨h1, h2⟩)
      · exact ⟨q, by omega, h2⟩
      · refine ⟨k, by omega, h1, fun hb => ?_⟩
        rcases h2 with h2 | h2
        · rw [hb] at h2; cases h2
        · exact h2
    · rintro ⟨q, h1, h2, h3⟩
      by_cases c : q = k
      · subst c
        refine .inr ⟨h2, ?_⟩
        cases b with
        | true => exact .inr (h3 rfl)
        | false => exact .inl rfl
      · exact .inl ⟨q, by omega, h2, h3⟩
theorem any_iff (A S : List Int) : A.any (fun x => decide (x ∈ S)) = true ↔ ∃ q, q < A.length ∧ A.getD q 0 ∈ S := by
  rw [List.any_eq_true]
  constructor
  · rintro ⟨x, hx, h⟩
    obtain ⟨q, hq, e⟩ := List.getElem_of_mem hx
    refine ⟨q, hq, ?_⟩
    rw [List.getD_eq_getElem?_getD, List.getElem?_eq_getElem hq, Option.getD_some, e]; exact of_decide_eq_true h
  · rintro ⟨q, hq, h⟩
    rw [List.getD_eq_getElem?_getD, List.getElem?_eq_getElem hq, Option.getD_some] at h
    exact ⟨A[q], List.getElem_mem hq, decide_eq_true h⟩
theorem pth_len {l : Rws} (hR : RV l) {i : Nat} (hi : i < l.length) : (pth l i).length = (up l (nx l i) (nx l i)).length + 1 := by
  unfold pth; rw [List.length_reverse, up_suc hR.2.2.1 hi]; rfl
theorem pth_get {l : Rws} (hR : RV l) {i : Nat} (hi : i < l.length) {q : Nat} (hq : q < (up l (nx l i) (nx l i)).length) : (pth l i).getD q 0 = (up l (nx l i) (nx l i)).getD ((up l (nx l i) (nx l i)).length - 1 - q) 0 := by
  have e := up_suc hR.2.2.1 hi
  unfold pth
  rw [getD_rev _ _ (by rw [e]; show q < _ + 1; omega), e]
  show (ni l i :: up l (nx l i) (nx l i)).getD ((up l (nx l i) (nx l i)).length + 1 - 1 - q) 0 = _
  obtain ⟨m, hm⟩ : ∃ m, (up l (nx l i) (nx l i)).length - 1 - q = m ∧ (up l (nx l i) (nx l i)).length + 1 - 1 - q = m + 1 := ⟨_, rfl, by omega⟩
  rw [hm.1, hm.2]; rfl
theorem step_ok {l T : Rws} (hR : RV l) (hT : 1 ≤ T.length) (r : List D) {i : Nat} (hi : i < l.length) :
    mt l (T ++ [r]) i = (ab (pth l i) (il l T l.length) (tb (T ++ [r]) T.length) ((pth l i).length - 1) && FFb l (T ++ [r]) i T.length) := by
  have hb : (if tb (T ++ [r]) T.length then Nat.testBit (pk l T i) (T.length - 1) else Nat.testBit (ak l T i) (T.length - 1)) = ab (pth l i) (il l T l.length) (tb (T ++ [r]) T.length) ((pth l i).length - 1) := by
    have hl := pth_len hR hi
    refine Bool.eq_iff_iff.2 ?_
    rw [ab_iff, hl]
    cases tb (T ++ [r]) T.length with
    | true =>
      rw [if_pos rfl, pk_up hR i hi, Bool.and_eq_true, decide_eq_true_iff, decide_eq_true_iff]
      constructor
      · rintro ⟨h1, h2⟩
        refine ⟨(up l (nx l i) (nx l i)).length - 1, by omega, ?_, fun _ => by omega⟩
        rw [pth_get hR hi (by omega), Nat.sub_self]; exact h2
      · rintro ⟨q, h1, h2, h3⟩
        have h3 := h3 rfl
        rw [pth_get hR hi (by omega), show (up l (nx l i) (nx l i)).length - 1 - q = 0 by omega] at h2
        exact ⟨by omega, h2⟩
    | false =>
      rw [if_neg (by decide), ak_up hR i hi, any_iff]
      constructor
      · rintro ⟨q, h1, h2⟩
        refine ⟨(up l (nx l i) (nx l i)).length - 1 - q, by omega, ?_, fun h => by cases h⟩
        rw [pth_get hR hi (by omega), show (up l (nx l i) (nx l i)).length - 1 - ((up l (nx l i) (nx l i)).length - 1 - q) = q by omega]; exact h2
      · rintro ⟨q, h1, h2, _⟩
        rw [pth_get hR hi (by omega)] at h2
        exact ⟨_, by omega, h2⟩
  have hq := pre_bits (T := T) r hR.2.2.1 i hi
  rw [← hb]
  unfold selectorBegins.mt selectorBegins.om
  rw [show (T ++ [r]).length = T.length + 1 by rw [List.length_append]; rfl, Nat.add_sub_cancel, okm_bit, decide_eq_true (Nat.lt_succ_self _), Bool.true_and, show (T.length == 0) = false from beq_eq_false_iff_ne.2 (by omega), Bool.false_or]
  cases tb (T ++ [r]) T.length with
  | true => rw [if_pos rfl, if_pos rfl, hq.2.1 _ (by omega)]
  | false => rw [if_neg (by decide), if_neg (by decide), hq.1 _ (by omega)]
set_option maxHeartbeats 1000000 in
theorem rful_ok (a b c d : Int) (s : List UInt8) (k e i : Int) (t : Bool) : SemF Try.prog 24 [.agg [.int .i64 a, .int .i64 b, .int .i64 c, .int .i64 d, .str s], .agg [.int .i64 k, .int .i64 e, .int .i64 i, .test t]] ⟨0, 0, []⟩ (fun v _ => v = .test (decide (FF a c d k e i)) ∧ nameless v = true) := by
  refine SemF.test ?_
  refine enter tt_ok Try.func24 (nt := 37) (cd := body Try.f24) rfl rfl rfl rfl ?_
  intro _; refine ⟨fun g => ?_, fun g => ?_⟩
  · have q1 : ¬ k = 0 := bne_iff_ne.1 (show (k != 0) = true from g)
    intro _; refine ⟨fun g => ?_, fun g => ?_⟩
    · have q2 := bne_iff_ne.1 (show (k != c) = true from g)
      intro _
      exact ⟨false, .inl rfl, by rw [decide_eq_false (fun h : FF a c d k e i => h.1.elim q1 q2)], rfl⟩
    · have p1 : k = 0 ∨ k = c := .inr (by have g : (k != c) = false := g; simpa using g)
      intro _; refine ⟨fun g => ?_, fun g => ?_⟩
      · have q3 : ¬ e = 0 := bne_iff_ne.1 (show (e != 0) = true from g)
        intro _; refine ⟨fun g => ?_, fun g => ?_⟩
        · have q4 := bne_iff_ne.1 (show (e != d) = true from g)
          intro _
          exact ⟨false, .inl rfl, by rw [decide_eq_false (fun h : FF a c d k e i => h.2.1.elim q3 q4)], rfl⟩
        · have p2 : e = 0 ∨ e = d := .inr (by have g : (e != d) = false := g; simpa using g)
          intro _; refine ⟨fun g => ?_, fun g => ?_⟩
          · have q5 : i = 0 := eq_of_beq (show (i == 0) = true from g)
            intro _
            exact ⟨true, .inl rfl, by rw [decide_eq_true (show FF a c d k e i from ⟨p1, p2, .inl q5⟩)], rfl⟩
          · have q5 : ¬ i = 0 := fun h => by
              have g : (i == 0) = false := g
              rw [h] at g; cases g
            intro _
            refine ⟨_, .inr rfl, ?_, rfl⟩
            have e' : decide (FF a c d k e i) = (i == a) := by
              by_cases q : i = a
              · rw [decide_eq_true (show FF a c d k e i from ⟨p1, p2, .inr q⟩), q]; simp
              · rw [decide_eq_false (fun h : FF a c d k e i => h.2.2.elim q5 q)]; simp [q]
            rw [e']
      · have p2 : e = 0 ∨ e = d := .inl (by have g : (e != 0) = false := g; simpa using g)
        intro _; refine ⟨fun g => ?_, fun g => ?_⟩
        · have q5 : i = 0 := eq_of_beq (show (i == 0) = true from g)
          intro _
          exact ⟨true, .inl rfl, by rw [decide_eq_true (show FF a c d k e i from ⟨p1, p2, .inl q5⟩)], rfl⟩
        · have q5 : ¬ i = 0 := fun h => by
            have g : (i == 0) = false := g
            rw [h] at g; cases g
          intro _
          refine ⟨_, .inr rfl, ?_, rfl⟩
          have e' : decide (FF a c d k e i) = (i == a) := by
            by_cases q : i = a
            · rw [decide_eq_true (show FF a c d k e i from ⟨p1, p2, .inr q⟩), q]; simp
            · rw [decide_eq_false (fun h : FF a c d k e i => h.2.2.elim q5 q)]; simp [q]
          rw [e']
  · have p1 : k = 0 ∨ k = c := .inl (by have g : (k != 0) = false := g; simpa using g)
    intro _; refine ⟨fun g => ?_, fun g => ?_⟩
    · have q3 : ¬ e = 0 := bne_iff_ne.1 (show (e != 0) = true from g)
      intro _; refine ⟨fun g => ?_, fun g => ?_⟩
      · have q4 := bne_iff_ne.1 (show (e != d) = true from g)
        intro _
        exact ⟨false, .inl rfl, by rw [decide_eq_false (fun h : FF a c d k e i => h.2.1.elim q3 q4)], rfl⟩
      · have p2 : e = 0 ∨ e = d := .inr (by have g : (e != d) = false := g; simpa using g)
        intro _; refine ⟨fun g => ?_, fun g => ?_⟩
        · have q5 : i = 0 := eq_of_beq (show (i == 0) = true from g)
          intro _
          exact ⟨true, .inl rfl, by rw [decide_eq_true (show FF a c d k e i from ⟨p1, p2, .inl q5⟩)], rfl⟩
        · have q5 : ¬ i = 0 := fun h => by
            have g : (i == 0) = false := g
            rw [h] at g; cases g
          intro _
          refine ⟨_, .inr rfl, ?_, rfl⟩
          have e' : decide (FF a c d k e i) = (i == a) := by
            by_cases q : i = a
            · rw [decide_eq_true (show FF a c d k e i from ⟨p1, p2, .inr q⟩), q]; simp
            · rw [decide_eq_false (fun h : FF a c d k e i => h.2.2.elim q5 q)]; simp [q]
          rw [e']
    · have p2 : e = 0 ∨ e = d := .inl (by have g : (e != 0) = false := g; simpa using g)
      intro _; refine ⟨fun g => ?_, fun g => ?_⟩
      · have q5 : i = 0 := eq_of_beq (show (i == 0) = true from g)
        intro _
        exact ⟨true, .inl rfl, by rw [decide_eq_true (show FF a c d k e i from ⟨p1, p2, .inl q5⟩)], rfl⟩
      · have q5 : ¬ i = 0 := fun h => by
          have g : (i == 0) = false := g
          rw [h] at g; cases g
        intro _
        refine ⟨_, .inr rfl, ?_, rfl⟩
        have e' : decide (FF a c d k e i) = (i == a) := by
          by_cases q : i = a
          · rw [decide_eq_true (show FF a c d k e i from ⟨p1, p2, .inr q⟩), q]; simp
          · rw [decide_eq_false (fun h : FF a c d k e i => h.2.2.elim q5 q)]; simp [q]
        rw [e']
theorem mfindP_mputP (q : Int × Int) (a : Int × Int) (d : List D) : ∀ l : List ((Int × Int) × List D), mfindP (mputP l a d) q = if a = q then some d else mfindP l q
  | [] => by simp [mputP, mfindP]
  | e :: l => by
    simp only [mputP]
    by_cases h : e.1 = a
    · rw [if_pos h]
      simp only [mfindP]
      by_cases h2 : a = q
      · rw [if_pos h2, if_pos h2]
      · rw [if_neg h2, if_neg h2, if_neg (fun x => h2 (h.symm.trans x))]
    · rw [if_neg h]
      simp only [mfindP, mfindP_mputP q a d l]
      by_cases h2 : e.1 = q
      · rw [if_pos h2, if_pos h2, if_neg (fun x => h (h2.trans x.symm))]
      · rw [if_neg h2, if_neg h2]
abbrev PM := List ((Int × Int) × List D)
/-- does a beginning of a selector match a node? -/
def MB (l T : Rws) (k i : Nat) : Bool := Nat.testBit (om l T i) k
/-- what was found not to match does not -/
def GM (l T : Rws) (M : PM) : Prop := ∀ k i : Nat, k < T.length → i < l.length → ∀ row, mfindP M ((k : Int), (i : Int)) = some row → (row.getD 0 (D.n 0)).bool = true → MB l T k i = false
theorem GM.nil (l T : Rws) : GM l T [] := fun k i _ _ row h => by cases h
theorem GM.put {l T : Rws} {M : PM} (h : GM l T M) {k i : Nat} {b : Bool} (hb : b = true → MB l T k i = false) : GM l T (mputP M ((k : Int), (i : Int)) [D.b b]) := by
  intro k' i' hk hi row hr hb'
  rw [mfindP_mputP] at hr
  by_cases c : ((k : Int), (i : Int)) = ((k' : Int), (i' : Int))
  · rw [if_pos c] at hr
    cases hr
    have c1 : k = k' := by have := (Prod.mk.inj c).1; omega
    have c2 : i = i' := by have := (Prod.mk.inj c).2; omega
    subst c1 c2
    exact hb hb'
  · rw [if_neg c] at hr
    exact h k' i' hk hi row hr hb'
/-- of the nodes from a place on, up to the root: does one match? -/
def AS (l T : Rws) (k : Nat) : Nat → Bool
  | 0 => false
  | s + 1 => MB l T k s || Nat.testBit (ak l T s) k
theorem ak_AS {l T : Rws} (hP : ∀ i, i < l.length → Pa l i) {i : Nat} (hi : i < l.length) (k : Nat) : Nat.testBit (ak l T i) k = AS l T k (nx l i) := by
  by_cases c : i = 0
  · subst c; show Nat.testBit 0 k = AS l T k 0; rw [Nat.zero_testBit]; rfl
  · rw [(pk_pr (T := T) (show 0 < i by omega) ((hP i hi).2 (by omega)).1).2, Nat.testBit_or, nx_pos (show 0 < i by omega), Bool.or_comm]; rfl
theorem pk_AS {l T : Rws} (hP : ∀ i, i < l.length → Pa l i) {i : Nat} (hi : i < l.length) (k : Nat) : Nat.testBit (pk l T i) k = (decide (0 < nx l i) && MB l T k (nx l i - 1)) := by
  by_cases c : i = 0
  · subst c; show Nat.testBit 0 k = (decide (0 < 0) && _); rw [Nat.zero_testBit]; rfl
  · rw [(pk_pr (T := T) (show 0 < i by omega) ((hP i hi).2 (by omega)).1).1, nx_pos (show 0 < i by omega), decide_eq_true (Nat.succ_pos _), Bool.true_and]; rfl
theorem MB_eq {l T : Rws} {k i : Nat} (hk : k < T.length) : MB l T k i = ((k == 0 || Nat.testBit (if tb T k then pk l T i else ak l T i) (k - 1)) && FFb l T i k) := by
  unfold MB om
  rw [okm_bit, decide_eq_true hk, Bool.true_and]
abbrev HM (l T : Rws) (M : PM) : List (Nat × Ob) := [(0, .arr [.int .i64, .int .i64, .int .i64, .int .i64, .str] .rd (.recs l)), (1, .arr [.int .i64, .int .i64, .int .i64, .bool] .rd (.recs T)), (2, .arr [.int .i64] .rd (.ints (uq l l.length))), (3, .cells [.slc 0 5 0 l.length]), (4, .cells [.slc 1 4 0 T.length]), (5, .cells [.slc 2 1 0 l.length]), (6, .cells [.fn 29 [] [.ptr 7 0, .ptr 3 0, .ptr 4 0, .ptr 5 0, .ptr 6 0]]), (7, .cells [.mp 8]), (8, .pmap [.bool] false M)]
/-- what is known of the nodes above so far -/
def ov (l T : Rws) (k : Nat) : Option Nat → V
  | none => .bool false
  | some a => .test (MB l T k a)
abbrev TH9 : Th := [(0, some 0), (1, some 1), (2, some 2), (3, some 3), (4, some 4), (5, some 5), (6, some 6), (7, some 7), (8, some 8)]
set_option maxHeartbeats 8000000 in
theorem rec_ok (l T : Rws) (hR : RV l) (hT : Tv T) : ∀ k, k < T.length → ∀ i, i < l.length → ∀ M, GM l T M → SemF Try.prog 29 [.int .i64 (k : Nat), .int .i64 (i : Nat), .ptr 7 0, .ptr 3 0, .ptr 4 0, .ptr 5 0, .ptr 6 0] ⟨9, 0, HM l T M⟩ (fun v h' => ∃ M', GM l T M' ∧ (v = .bool (MB l T k i) ∨ v = .test (MB l T k i)) ∧ h' = ⟨9, 0, HM l T M'⟩) := by
  have t8 := hT.1.1.2
  have hn := hR.1.2
  intro k
  induction k using Nat.strongRecOn with
  | ind k ih =>
  intro hk i hi M hM
  refine SemF.ret ?_
  refine enter tt_ok Try.func29 (nt := 55) (cd := body Try.f29) rfl rfl rfl rfl ?_
  have z : 0 + i = i := Nat.zero_add i
  have zk : 0 + k = k := Nat.zero_add k
  intro _; refine ⟨fun g => ?_, fun g => ?_⟩
  · have hMB : MB l T k i = false := by
      have g : (((mfindP M ((k : Int), (i : Int))).getD [D.b false]).getD 0 (D.n 0)).bool = true := g
      cases hf : mfindP M ((k : Int), (i : Int)) with
      | none => rw [hf] at g; exact absurd g (by decide)
      | some row => rw [hf] at g; exact hM k i hk hi row hf g
    intro _
    refine ⟨TH9, .bool false, ⟨9, 0, HM l T M⟩, rfl, rfl, rfl, rfl, ?_, ?_, ⟨M, hM, .inl (by rw [hMB]), rfl⟩⟩
    · (repeat' first | exact trivial | exact rfl | refine And.intro ?_ ?_)
    · (repeat' first | exact trivial | exact rfl | refine And.intro ?_ ?_)
  have hpk := MB_eq (l := l) (T := T) (k := k) (i := i) hk
  intro _; refine ⟨show 0 ≤ (i : Int) ∧ (i : Int) < (l.length : Int) by omega, ?_⟩
  intro _; refine ⟨show 0 + (i : Int).toNat < l.length by omega, ?_⟩
  intro _; refine ⟨show 0 ≤ (k : Int) ∧ (k : Int) < (T.length : Int) by omega, ?_⟩
  intro _; refine ⟨show 0 + (k : Int).toNat < T.length by omega, ?_⟩
  intro _; refine Or.inl ?_
  intro _
  refine call_pure [] (ful_ok (ni l (0 + i)) (np l (0 + i)) (nk l (0 + i)) (nc l (0 + i)) (nt l (0 + i)) (tk T (0 + k)) (tc T (0 + k)) (ti T (0 + k)) (tb T (0 + k))) rfl rfl rfl ?_ ?_ ?_
  · (repeat' first | exact trivial | exact rfl | refine And.intro ?_ ?_)
  · (repeat' first | exact trivial | exact rfl | refine And.intro ?_ ?_)
  intro v hv _
  subst hv
  intro _; refine ⟨by kernel_rfl, ?_⟩
  have eF : decide (FF (ni l (0 + i)) (nk l (0 + i)) (nc l (0 + i)) (tk T (0 + k)) (tc T (0 + k)) (ti T (0 + k))) = FFb l T i k := by rw [z, zk]; rfl
  intro _; refine ⟨fun g => ?_, fun g => ?_⟩
  rotate_left
  · have g : FFb l T i k = false := eF.symm.trans g
    have hMB : MB l T k i = false := by rw [hpk, g, Bool.and_false]
    intro _
    refine ⟨TH9, .test (decide (FF (ni l (0 + i)) (nk l (0 + i)) (nc l (0 + i)) (tk T (0 + k)) (tc T (0 + k)) (ti T (0 + k)))), ⟨9, 0, HM l T (mputP M ((k : Int), (i : Int)) [D.b (!decide (FF (ni l (0 + i)) (nk l (0 + i)) (nc l (0 + i)) (tk T (0 + k)) (tc T (0 + k)) (ti T (0 + k))))])⟩, rfl, rfl, rfl, rfl, ?_, ?_, ⟨_, hM.put (fun _ => hMB), .inr (by rw [eF, g, hMB]), rfl⟩⟩
    · (repeat' first | exact trivial | exact rfl | refine And.intro ?_ ?_)
    · (repeat' first | exact trivial | exact rfl | refine And.intro ?_ ?_)
  have gF : FFb l T i k = true := eF.symm.trans g
  intro _; refine ⟨fun g => ?_, fun g => ?_⟩
  rotate_left
  · have g := of_decide_eq_false (show decide ((k : Int) > 0) = false from g)
    have hk0 : k = 0 := by omega
    have hMB : MB l T k i = true := by rw [hpk, gF, hk0]; rfl
    intro _
    refine ⟨TH9, .test (decide (FF (ni l (0 + i)) (nk l (0 + i)) (nc l (0 + i)) (tk T (0 + k)) (tc T (0 + k)) (ti T (0 + k)))), ⟨9, 0, HM l T (mputP M ((k : Int), (i : Int)) [D.b (!decide (FF (ni l (0 + i)) (nk l (0 + i)) (nc l (0 + i)) (tk T (0 + k)) (tc T (0 + k)) (ti T (0 + k))))])⟩, rfl, rfl, rfl, rfl, ?_, ?_, ⟨_, hM.put (fun hb => by rw [eF, gF] at hb; cases hb), .inr (by rw [eF, gF, hMB]), rfl⟩⟩
    · (repeat' first | exact trivial | exact rfl | refine And.intro ?_ ?_)
    · (repeat' first | exact trivial | exact rfl | refine And.intro ?_ ?_)
  have g := of_decide_eq_true (show decide ((k : Int) > 0) = true from g)
  have hk0 : 0 < k := by omega
  have hPl : ∀ i, i < l.length → Pa l i := hR.2.2.1
  have hul := uq_len l l.length
  have hug : ∀ a, a < l.length → (uq l l.length).getD a 0 = ((nx l a : Nat) : Int) - 1 := fun a ha => by
    rw [uq_get l.length (Nat.le_refl _) a ha]
    unfold nx
    by_cases c : a = 0
    · rw [if_pos c, if_pos c]; rfl
    · rw [if_neg c, if_neg c]; omega
  intro _
  refine enter tt_ok Try.func31 (nt := 6) (cd := body Try.f31) rfl rfl rfl rfl ?_
  intro _
  intro _
  refine range_ok ?_
  intro _
  refine enter tt_ok Try.func40 (nt := 18) (cd := body Try.f40) rfl rfl rfl rfl ?_
  intro _; refine ⟨show 0 ≤ (i : Int) ∧ (i : Int) < (l.length : Int) by omega, ?_⟩
  intro _; refine ⟨show 0 + (i : Int).toNat < (uq l l.length).length by omega, ?_⟩
  intro _
  refine loop2 tt_ok [] [12, 10, 8] 15 (fun p : { p : Nat × Option Nat × PM // (p.1 ≤ l.length ∧ GM l T p.2.2) ∧ (p.1 = nx l i ∨ tb T k = false) ∧ Nat.testBit (ak l T i) (k - 1) = AS l T (k - 1) p.1 ∧ ∀ a, p.2.1 = some a → MB l T (k - 1) a = false } => []) (fun p => [(12, .cells [.int .i64 ((p.1.1 : Nat) - 1 : Int)]), (10, .cells [ov l T (k - 1) p.1.2.1]), (8, .pmap [.bool] false p.1.2.2)]) (fun p => p.1.1) ⟨(nx l i, none, M), ⟨by have := nx_le hPl hi; show nx l i ≤ l.length; omega, hM⟩, .inl rfl, ak_AS hPl hi (k - 1), fun a h => by cases h⟩ ?_
  intro _
  refine ⟨⟨th [] 15, rfl, rfl, rfl, rfl, rfl, rfl, ?_, ?_⟩, ?_⟩
  · (repeat' first | exact trivial | exact rfl | refine And.intro ?_ ?_)
  · (repeat' first | exact trivial | exact rfl | refine And.intro ?_ ?_)
    show ((nx l i : Nat) : Int) - 1 = (uq l l.length).getD (0 + (i : Int).toNat) 0
    rw [show 0 + (i : Int).toNat = i by omega, hug i hi]
  intro ⟨(s, o, M1), ⟨hs, hM1⟩, hx, hA, ho⟩
  have hs : s ≤ l.length := hs
  have hM1 : GM l T M1 := hM1
  have hx : s = nx l i ∨ tb T k = false := hx
  have hA : Nat.testBit (ak l T i) (k - 1) = AS l T (k - 1) s := hA
  have ho : ∀ a, o = some a → MB l T (k - 1) a = false := ho
  have hk1 : (k == 0) = false := beq_eq_false_iff_ne.2 (by omega)
  rw [hk1, Bool.false_or, gF, Bool.and_true] at hpk
  have ew : IntKind.i64.wrap ((k : Int) - 1) = ((k - 1 : Nat) : Int) := by rw [wrapS _ ⟨by omega, by omega⟩]; omega
  intro _; refine ⟨fun g => ?_, fun g => ?_⟩
  rotate_left
  · have g := of_decide_eq_false (show decide (((s : Nat) - 1 : Int) ≥ 0) = false from g)
    have hs0 : s = 0 := by omega
    have hMB : MB l T k i = false := by
      rw [hpk]
      cases htb : tb T k with
      | true =>
        rw [if_pos rfl, pk_AS hPl hi]
        rcases hx with hx | hx
        · rw [← hx, hs0]; rfl
        · rw [htb] at hx; cases hx
      | false => rw [if_neg (by decide), hA, hs0]; rfl

    rcases o with _ | a
    · have hB : false = MB l T k i := hMB.symm
      intro _
      intro _
      refine ⟨TH9, .bool false, ⟨9, 0, HM l T (mputP M1 ((k : Int), (i : Int)) [D.b (!false)])⟩, rfl, rfl, rfl, rfl, ?_, ?_, ⟨_, hM1.put (fun hq => hB.symm.trans ((Bool.not_eq_true' _).mp hq)), .inl (by rw [← hB]), rfl⟩⟩
      · (repeat' first | exact trivial | exact rfl | refine And.intro ?_ ?_)
      · (repeat' first | exact trivial | exact rfl | refine And.intro ?_ ?_)
    · have hB : MB l T (k - 1) a = MB l T k i := (ho a rfl).trans hMB.symm
      intro _
      intro _
      refine ⟨TH9, .test (MB l T (k - 1) a), ⟨9, 0, HM l T (mputP M1 ((k : Int), (i : Int)) [D.b (!MB l T (k - 1) a)])⟩, rfl, rfl, rfl, rfl, ?_, ?_, ⟨_, hM1.put (fun hq => hB.symm.trans ((Bool.not_eq_true' _).mp hq)), .inr (by rw [← hB]), rfl⟩⟩
      · (repeat' first | exact trivial | exact rfl | refine And.intro ?_ ?_)
      · (repeat' first | exact trivial | exact rfl | refine And.intro ?_ ?_)
  have g := of_decide_eq_true (show decide (((s : Nat) - 1 : Int) ≥ 0) = true from g)
  obtain ⟨a, rfl⟩ : ∃ a, s = a + 1 := ⟨s - 1, by omega⟩
  have ha : a < l.length := by omega
  have hyes : MB l T (k - 1) a = true → MB l T k i = true := fun h => by
    rw [hpk]
    cases htb : tb T k with
    | true =>
      rw [if_pos rfl, pk_AS hPl hi]
      rcases hx with hx | hx
      · rw [← hx, decide_eq_true (Nat.succ_pos _), Bool.true_and]; exact h
      · rw [htb] at hx; cases hx
    | false =>
      rw [if_neg (by decide), hA]
      show (MB l T (k - 1) a || _) = true
      rw [h, Bool.true_or]
  have hno : MB l T (k - 1) a = false → tb T k = true → MB l T k i = false := fun h htb => by
    rw [hpk, htb, if_pos rfl, pk_AS hPl hi]
    rcases hx with hx | hx
    · rw [← hx, decide_eq_true (Nat.succ_pos _), Bool.true_and]; exact h
    · rw [htb] at hx; cases hx
  have hgo : MB l T (k - 1) a = false → Nat.testBit (ak l T i) (k - 1) = AS l T (k - 1) (nx l a) := fun h => by
    rw [hA, ← ak_AS hPl ha]
    show (MB l T (k - 1) a || _) = _
    rw [h, Bool.false_or]
  have hna := nx_le hPl ha
  intro _
  refine yield_ok tt_ok ?_
  intro _
  refine call_mut2 TH9 (ih (k - 1) (by omega) (by omega) a ha M1 hM1) rfl rfl rfl rfl ?_ ?_ ?_
  · (repeat' first | exact trivial | exact rfl | refine And.intro ?_ ?_)
  · (repeat' first | exact trivial | exact rfl | refine And.intro ?_ ?_)
    · exact ew.symm
    · show ((a : Nat) : Int) = ((a + 1 : Nat) : Int) - 1
      omega
  intro v h' ⟨M2, hM2, hv, hh⟩
  subst hh
  rcases hv with hv | hv
  · obtain ⟨cb, hcb⟩ : ∃ c, c = MB l T (k - 1) a := ⟨_, rfl⟩
    rw [← hcb] at hv
    subst hv
    refine ⟨_, rfl, rfl, ?_⟩
    cases cb with
    | true =>
      have hB : true = MB l T k i := (hyes hcb.symm).symm
      intro _
      intro _
      intro _
      refine ⟨TH9, .bool true, ⟨9, 0, HM l T (mputP M2 ((k : Int), (i : Int)) [D.b (!true)])⟩, rfl, rfl, rfl, rfl, ?_, ?_, ⟨_, hM2.put (fun hq => hB.symm.trans ((Bool.not_eq_true' _).mp hq)), .inl (by rw [← hB]), rfl⟩⟩
      · (repeat' first | exact trivial | exact rfl | refine And.intro ?_ ?_)
      · (repeat' first | exact trivial | exact rfl | refine And.intro ?_ ?_)
    | false =>
      intro _; refine ⟨show 0 ≤ (k : Int) ∧ (k : Int) < (T.length : Int) by omega, ?_⟩
      intro _; refine ⟨show 0 + (k : Int).toNat < T.length by omega, ?_⟩
      intro _; refine ⟨fun g5 => ?_, fun g5 => ?_⟩
      · have g5 : tb T k = true := by
          have g5 : tb T (0 + k) = true := g5
          rw [zk] at g5; exact g5
        have hB : false = MB l T k i := (hno hcb.symm g5).symm ▸ rfl
        intro _
        intro _
        intro _
        refine ⟨TH9, .bool false, ⟨9, 0, HM l T (mputP M2 ((k : Int), (i : Int)) [D.b (!false)])⟩, rfl, rfl, rfl, rfl, ?_, ?_, ⟨_, hM2.put (fun hq => hB.symm.trans ((Bool.not_eq_true' _).mp hq)), .inl (by rw [← hB]), rfl⟩⟩
        · (repeat' first | exact trivial | exact rfl | refine And.intro ?_ ?_)
        · (repeat' first | exact trivial | exact rfl | refine And.intro ?_ ?_)
      have g5 : tb T k = false := by
        have g5 : tb T (0 + k) = false := g5
        rw [zk] at g5; exact g5
      intro _
      intro _; refine ⟨show 0 ≤ ((a + 1 : Nat) : Int) - 1 ∧ ((a + 1 : Nat) : Int) - 1 < (l.length : Int) by omega, ?_⟩
      intro _; refine ⟨show 0 + (((a + 1 : Nat) : Int) - 1).toNat < (uq l l.length).length by omega, ?_⟩
      refine ⟨⟨(nx l a, none, M2), ⟨by show nx l a ≤ l.length; omega, hM2⟩, .inr g5, hgo hcb.symm, fun x h => by cases h⟩, by show nx l a < a + 1; omega, th [] 15, rfl, rfl, rfl, rfl, rfl, rfl, ?_, ?_⟩
      · (repeat' first | exact trivial | exact rfl | refine And.intro ?_ ?_)
      · (repeat' first | exact trivial | exact rfl | refine And.intro ?_ ?_)
        show ((nx l a : Nat) : Int) - 1 = (uq l l.length).getD (0 + (((a + 1 : Nat) : Int) - 1).toNat) 0
        rw [show 0 + (((a + 1 : Nat) : Int) - 1).toNat = a by omega, hug a ha]
  · subst hv
    refine ⟨_, rfl, rfl, ?_⟩
    intro _; refine ⟨fun g4 => ?_, fun g4 => ?_⟩
    · have g4 : MB l T (k - 1) a = true := g4
      have hB : MB l T (k - 1) a = MB l T k i := g4.trans (hyes g4).symm
      intro _
      intro _
      intro _
      refine ⟨TH9, .test (MB l T (k - 1) a), ⟨9, 0, HM l T (mputP M2 ((k : Int), (i : Int)) [D.b (!MB l T (k - 1) a)])⟩, rfl, rfl, rfl, rfl, ?_, ?_, ⟨_, hM2.put (fun hq => hB.symm.trans ((Bool.not_eq_true' _).mp hq)), .inr (by rw [← hB]), rfl⟩⟩
      · (repeat' first | exact trivial | exact rfl | refine And.intro ?_ ?_)
      · (repeat' first | exact trivial | exact rfl | refine And.intro ?_ ?_)
    · have g4 : MB l T (k - 1) a = false := g4
      intro _; refine ⟨show 0 ≤ (k : Int) ∧ (k : Int) < (T.length : Int) by omega, ?_⟩
      intro _; refine ⟨show 0 + (k : Int).toNat < T.length by omega, ?_⟩
      intro _; refine ⟨fun g5 => ?_, fun g5 => ?_⟩
      · have g5 : tb T k = true := by
          have g5 : tb T (0 + k) = true := g5
          rw [zk] at g5; exact g5
        have hB : MB l T (k - 1) a = MB l T k i := (hno g4 g5).symm ▸ g4
        intro _
        intro _
        intro _
        refine ⟨TH9, .test (MB l T (k - 1) a), ⟨9, 0, HM l T (mputP M2 ((k : Int), (i : Int)) [D.b (!MB l T (k - 1) a)])⟩, rfl, rfl, rfl, rfl, ?_, ?_, ⟨_, hM2.put (fun hq => hB.symm.trans ((Bool.not_eq_true' _).mp hq)), .inr (by rw [← hB]), rfl⟩⟩
        · (repeat' first | exact trivial | exact rfl | refine And.intro ?_ ?_)
        · (repeat' first | exact trivial | exact rfl | refine And.intro ?_ ?_)
      have g5 : tb T k = false := by
        have g5 : tb T (0 + k) = false := g5
        rw [zk] at g5; exact g5
      intro _
      intro _; refine ⟨show 0 ≤ ((a + 1 : Nat) : Int) - 1 ∧ ((a + 1 : Nat) : Int) - 1 < (l.length : Int) by omega, ?_⟩
      intro _; refine ⟨show 0 + (((a + 1 : Nat) : Int) - 1).toNat < (uq l l.length).length by omega, ?_⟩
      refine ⟨⟨(nx l a, some a, M2), ⟨by show nx l a ≤ l.length; omega, hM2⟩, .inr g5, hgo g4, fun x h => by cases h; exact g4⟩, by show nx l a < a + 1; omega, th [] 15, rfl, rfl, rfl, rfl, rfl, rfl, ?_, ?_⟩
      · (repeat' first | exact trivial | exact rfl | refine And.intro ?_ ?_)
      · (repeat' first | exact trivial | exact rfl | refine And.intro ?_ ?_)
        show ((nx l a : Nat) : Int) - 1 = (uq l l.length).getD (0 + (((a + 1 : Nat) : Int) - 1).toNat) 0
        rw [show 0 + (((a + 1 : Nat) : Int) - 1).toNat = a by omega, hug a ha]
set_option maxHeartbeats 8000000 in
theorem match_ok (l T : Rws) (hR : RV l) (hT : Tv T) (hs : ∀ i, i < l.length → (nt l i).length ≤ 9223372036854775807) (j : Nat) (hj : j < l.length) : SemF Try.prog 12 [.slc 0 5 0 l.length, .slc 1 4 0 T.length, .int .i64 (ni l j)] ⟨2, 2, [(0, .arr [.int .i64, .int .i64, .int .i64, .int .i64, .str] .rd (.recs l)), (1, .arr [.int .i64, .int .i64, .int .i64, .bool] .rd (.recs T))]⟩ (fun v _ => (v = .tup [.bool (mt l T j), .int .i64 0] ∨ v = .tup [.test (mt l T j), .int .i64 0]) ∧ nameless v = true) := by
  have n1 := hR.1.1
  have n2 := hR.1.2
  have t1 := hT.1.1.1
  have t8 := hT.1.1.2
  refine enter tt_ok Try.func12 (nt := 48) (cd := body Try.f12) rfl rfl rfl rfl ?_
  intro _
  refine call_pure [(0, some 0)] (valid2_ok l (by omega) hs) rfl rfl rfl ?_ ?_ ?_
  · (repeat' first | exact trivial | exact rfl | refine And.intro ?_ ?_)
  · (repeat' first | exact trivial | exact rfl | refine And.intro ?_ ?_)
  intro v hv _
  subst hv
  intro _; refine ⟨fun g => ?_, fun g => ?_⟩
  · exfalso
    have g : (!decide (RV l)) = true := g
    rw [decide_eq_true hR] at g; cases g
  intro _
  refine call_pure [(0, some 1)] (valid_ok T (by omega)) rfl rfl rfl ?_ ?_ ?_
  · (repeat' first | exact trivial | exact rfl | refine And.intro ?_ ?_)
  · (repeat' first | exact trivial | exact rfl | refine And.intro ?_ ?_)
  intro v hv _
  subst hv
  intro _; refine ⟨fun g => ?_, fun g => ?_⟩
  · exfalso
    have g : (!decide (Tv T)) = true := g
    rw [decide_eq_true hT] at g; cases g
  intro _
  refine loop2 tt_ok [25, 8, 9] [] 4 (fun p : { p : Bool × Nat // p.2 ≤ l.length ∧ (p.1 = true ↔ j < p.2) } => [(25, .int .i64 (p.1.2 : Nat)), (8, .int .i64 ((cond p.1.1 j 0 : Nat) : Int)), (9, .bool p.1.1)]) (fun _ => []) (fun p => l.length - p.1.2) ⟨(false, 0), by show 0 ≤ _; omega, by simp⟩ ?_
  intro _
  refine ⟨⟨th [] 4, rfl, rfl, rfl, rfl, rfl, rfl, ?_, ?_⟩, ?_⟩
  · (repeat' first | exact trivial | exact rfl | refine And.intro ?_ ?_)
  · (repeat' first | exact trivial | exact rfl | refine And.intro ?_ ?_)
  intro ⟨(f, k), hk, hf⟩
  have hk : k ≤ l.length := hk
  have hf : f = true ↔ j < k := hf
  have z : 0 + k = k := Nat.zero_add k
  intro _; refine ⟨fun g => ?_, fun g => ?_⟩
  · have hkl := of_decide_eq_true (show decide ((k : Int) < (l.length : Int)) = true from g)
    intro _; refine ⟨show 0 ≤ (k : Int) ∧ (k : Int) < (l.length : Int) by omega, ?_⟩
    intro _; refine ⟨show 0 + (k : Int).toNat < l.length by omega, ?_⟩
    intro _; refine ⟨fun g => ?_, fun g => ?_⟩
    · have g : ni l (0 + k) = ni l j := eq_of_beq (show (ni l (0 + k) == ni l j) = true from g)
      rw [z] at g
      have e := ni_inj hR (by omega) hj g
      subst e
      refine ⟨⟨(true, k + 1), by show k + 1 ≤ _; omega, by simp⟩, by show l.length - (k + 1) < l.length - k; omega, th [] 4, rfl, rfl, rfl, rfl, rfl, rfl, ?_, ?_⟩
      · (repeat' first | exact trivial | exact rfl | refine And.intro ?_ ?_)
        exact (wrap_nat k (by omega)).symm
      · (repeat' first | exact trivial | exact rfl | refine And.intro ?_ ?_)
    · have g : (ni l (0 + k) == ni l j) = false := g
      rw [z] at g
      have hne : k ≠ j := fun e => by rw [e] at g; simp at g
      refine ⟨⟨(f, k + 1), by show k + 1 ≤ _; omega, by show f = true ↔ j < k + 1; rw [hf]; omega⟩, by show l.length - (k + 1) < l.length - k; omega, th [] 4, rfl, rfl, rfl, rfl, rfl, rfl, ?_, ?_⟩
      · (repeat' first | exact trivial | exact rfl | refine And.intro ?_ ?_)
        exact (wrap_nat k (by omega)).symm
      · (repeat' first | exact trivial | exact rfl | refine And.intro ?_ ?_)
  have hkl := of_decide_eq_false (show decide ((k : Int) < (l.length : Int)) = false from g)
  obtain rfl : f = true := hf.2 (by omega)
  have ew : IntKind.i64.wrap ((T.length : Int) - 1) = ((T.length - 1 : Nat) : Int) := by rw [wrapS _ ⟨by omega, by omega⟩]; omega
  intro _
  refine call_new [(0, some 0)] (parents_ok l hR) rfl rfl rfl rfl ?_ ?_ ?_
  · (repeat' first | exact trivial | exact rfl | refine And.intro ?_ ?_)
  · (repeat' first | exact trivial | exact rfl | refine And.intro ?_ ?_)
  intro v h' hv
  obtain ⟨rfl, rfl⟩ := hv
  refine ⟨[(4, some 1)], 5, [(4, .arr [.int .i64] .own (.ints (uq l l.length)))], .grw 4 l.length, rfl, rfl, rfl, rfl, rfl, ?_, ?_, ?_⟩
  · (repeat' first | exact trivial | exact rfl | refine And.intro ?_ ?_)
  · (repeat' first | exact trivial | exact rfl | refine And.intro ?_ ?_)
  intro _
  refine call_mut2 [(0, some 0), (1, some 1), (2, some 4), (3, some 2), (4, some 3), (5, some 5), (6, some 8), (7, some 7), (8, some 6)] (rec_ok l T hR hT (T.length - 1) (by omega) j hj [] (GM.nil l T)) rfl rfl rfl rfl ?_ ?_ ?_
  · (repeat' first | exact trivial | exact rfl | refine And.intro ?_ ?_)
  · (repeat' first | exact trivial | exact rfl | refine And.intro ?_ ?_)
    exact ew.symm
  intro v h' ⟨M2, hM2, hv, hh⟩
  subst hh
  have em : MB l T (T.length - 1) j = mt l T j := rfl
  rw [em] at hv
  rcases hv with hv | hv
  · subst hv
    refine ⟨_, rfl, rfl, ?_⟩
    intro _
    exact ⟨.inl rfl, rfl⟩
  · subst hv
    refine ⟨_, rfl, rfl, ?_⟩
    intro _
    exact ⟨.inr rfl, rfl⟩
/-- a row, cell by cell -/
def r5 (l : Rws) (i : Nat) : List D := [D.n (ni l i), D.n (np l i), D.n (nk l i), D.n (nc l i), D.s (nt l i)]
/-- the rows of some nodes alone -/
def pick (l : Rws) (I : List Nat) : Rws := I.map (r5 l)
theorem pick_get {l : Rws} {I : List Nat} {q : Nat} (h : q < I.length) : (pick l I).getD q [] = r5 l (I.getD q 0) := by
  unfold pick
  have e : I.getD q 0 = I[q] := by rw [List.getD_eq_getElem?_getD, List.getElem?_eq_getElem h]; rfl
  rw [List.getD_eq_getElem?_getD, List.getElem?_map, List.getElem?_eq_getElem h, e]; rfl
theorem pick_len (l : Rws) (I : List Nat) : (pick l I).length = I.length := List.length_map _
/-- a path from the root: each node's parent stands before it -/
structure Pth (l : Rws) (I : List Nat) : Prop where
  pos : 0 < I.length
  zero : I.getD 0 0 = 0
  lt : ∀ q, q < I.length → I.getD q 0 < l.length
  step : ∀ q, q + 1 < I.length → 0 < I.getD (q + 1) 0 ∧ pr l (I.getD (q + 1) 0) = I.getD q 0
variable {l : Rws} {I : List Nat}
theorem pick_ni {q : Nat} (h : q < I.length) : ni (pick l I) q = ni l (I.getD q 0) := by unfold ni; rw [pick_get h]; rfl
theorem pick_np {q : Nat} (h : q < I.length) : np (pick l I) q = np l (I.getD q 0) := by unfold np; rw [pick_get h]; rfl
theorem pick_nk {q : Nat} (h : q < I.length) : nk (pick l I) q = nk l (I.getD q 0) := by unfold nk; rw [pick_get h]; rfl
theorem pick_nc {q : Nat} (h : q < I.length) : nc (pick l I) q = nc l (I.getD q 0) := by unfold nc; rw [pick_get h]; rfl
theorem pick_nt {q : Nat} (h : q < I.length) : nt (pick l I) q = nt l (I.getD q 0) := by unfold nt; rw [pick_get h]; rfl
theorem Pth.inc (h : Pth l I) (hR : RV l) : ∀ q p, p < q → q < I.length → I.getD p 0 < I.getD q 0
  | 0, p, hp, _ => by omega
  | q + 1, p, hp, hq => by
    obtain ⟨h1, h2⟩ := h.step q hq
    have h3 := ((hR.2.2.1 _ (h.lt (q + 1) hq)).2 h1).1
    rw [h2] at h3
    by_cases c : p = q
    · subst c; exact h3
    · have := Pth.inc h hR q p (by omega) (by omega)
      omega
theorem Pth.inj (h : Pth l I) (hR : RV l) {p q : Nat} (hp : p < I.length) (hq : q < I.length) (e : ni (pick l I) p = ni (pick l I) q) : p = q := by
  rw [pick_ni hp, pick_ni hq] at e
  have e := ni_inj hR (h.lt p hp) (h.lt q hq) e
  rcases Nat.lt_trichotomy p q with c | c | c
  · have := h.inc hR q p c hq; omega
  · exact c
  · have := h.inc hR p q c hp; omega
theorem Pth.fi (h : Pth l I) (hR : RV l) {q m : Nat} (hq : q < m) (hm : m ≤ I.length) : selectorBegins.fi (pick l I) (ni (pick l I) q) m = q :=
  fi_eq hq rfl (fun i hi e => by have := h.inj hR (show i < I.length by omega) (show q < I.length by omega) e; omega)
theorem Pth.fi' (h : Pth l I) (hR : RV l) {q : Nat} (hq : q < I.length) : selectorBegins.fi (pick l I) (ni (pick l I) q) q = q := by
  have hle := fi_le (pick l I) (ni (pick l I) q) q
  refine Nat.le_antisymm hle (Nat.le_of_not_lt fun c => ?_)
  have e := (fi_lt _ c).1
  have := h.inj hR (show selectorBegins.fi (pick l I) (ni (pick l I) q) q < I.length by omega) hq e
  omega
theorem Pth.pr (h : Pth l I) (hR : RV l) {q : Nat} (hq : q + 1 < I.length) : selectorBegins.pr (pick l I) (q + 1) = q := by
  unfold selectorBegins.pr
  obtain ⟨h1, h2⟩ := h.step q hq
  have hp := ((hR.2.2.1 _ (h.lt (q + 1) hq)).2 h1).1
  have e : np (pick l I) (q + 1) = ni (pick l I) q := by
    rw [pick_np hq, pick_ni (by omega), ← h2]
    exact (fi_lt (l := l) (id := np l (I.getD (q + 1) 0)) _ hp).1.symm
  rw [e]
  exact h.fi hR (by omega) (by omega)
theorem Pth.dp (h : Pth l I) (hR : RV l) : ∀ q, q < I.length → selectorBegins.dp (pick l I) q = selectorBegins.dp l (I.getD q 0)
  | 0, hq => by rw [h.zero]; rfl
  | q + 1, hq => by
    obtain ⟨h1, h2⟩ := h.step q hq
    have hp := ((hR.2.2.1 _ (h.lt (q + 1) hq)).2 h1).1
    rw [dp_suc (by omega) (by rw [h.pr hR hq]; omega), h.pr hR hq, Pth.dp h hR q (by omega), dp_suc h1 hp, h2]
theorem Pth.rv (h : Pth l I) (hR : RV l) (h4 : I.length ≤ 4000) : RV (pick l I) := by
  have hl := pick_len l I
  refine ⟨⟨by rw [hl]; exact h.pos, by rw [hl]; exact h4⟩, fun q hq => ?_, fun q hq => ?_, fun q hq => ?_⟩
  · rw [hl] at hq
    have e := hR.2.1 _ (h.lt q hq)
    refine ⟨?_, h.fi' hR hq⟩
    rw [pick_ni hq, pick_np hq, pick_nk hq, pick_nc hq, pick_nt hq]; exact e.1
  · rw [hl] at hq
    have e := hR.2.2.1 _ (h.lt q hq)
    refine ⟨fun c => ?_, fun c => ?_⟩
    · subst c
      rw [pick_np hq, pick_nk hq, h.zero]
      have e0 := hR.2.2.1 0 (by have := h.lt 0 hq; rw [h.zero] at this; exact this)
      exact e0.1 rfl
    · obtain ⟨p, rfl⟩ : ∃ p, q = p + 1 := ⟨q - 1, by omega⟩
      obtain ⟨h1, h2⟩ := h.step p hq
      rw [h.pr hR hq, pick_nk hq, pick_nk (show p < I.length by omega), ← h2]
      exact ⟨by omega, (e.2 h1).2⟩
  · rw [hl] at hq
    rw [h.dp hR q hq]
    exact hR.2.2.2 _ (h.lt q hq)
theorem Pth.FF (h : Pth l I) {T : Rws} {q k : Nat} (hq : q < I.length) : FFb (pick l I) T q k = FFb l T (I.getD q 0) k := by
  unfold FFb; rw [pick_ni hq, pick_nk hq, pick_nc hq]
/-- the same beginnings match -/
theorem Pth.om (h : Pth l I) (hR : RV l) (T : Rws) : ∀ q, q < I.length → selectorBegins.om (pick l I) T q = selectorBegins.om l T (I.getD q 0) ∧ selectorBegins.ak (pick l I) T q = selectorBegins.ak l T (I.getD q 0)
  | 0, hq => by
    have e : ∀ k, okm (pick l I) T 0 0 0 k = okm l T 0 0 0 k := fun k => Nat.eq_of_testBit_eq fun j => by
      rw [okm_bit, okm_bit, h.FF hq, h.zero]
    rw [h.zero]
    exact ⟨e T.length, rfl⟩
  | q + 1, hq => by
    obtain ⟨h1, h2⟩ := h.step q hq
    have hp := ((hR.2.2.1 _ (h.lt (q + 1) hq)).2 h1).1
    obtain ⟨i1, i2⟩ := Pth.om h hR T q (by omega)
    have hpp : selectorBegins.pr (pick l I) (q + 1) < q + 1 := by rw [h.pr hR hq]; omega
    obtain ⟨a1, a2⟩ := pk_pr (T := T) (show 0 < q + 1 by omega) hpp
    obtain ⟨b1, b2⟩ := pk_pr (T := T) h1 hp
    rw [h.pr hR hq, i1] at a1
    rw [h.pr hR hq, i1, i2] at a2
    rw [h2] at b1 b2
    have ep := a1.trans b1.symm
    have ea := a2.trans b2.symm
    refine ⟨?_, ea⟩
    unfold selectorBegins.om
    rw [ep, ea]
    exact Nat.eq_of_testBit_eq fun j => by rw [okm_bit, okm_bit, h.FF hq]
/-- the places of a path, from the root -/
def ch (l : Rws) : Nat → Nat → List Nat
  | 0, _ => []
  | _ + 1, 0 => []
  | f + 1, i + 1 => ch l f (nx l i) ++ [i]
theorem ch_up (l : Rws) : ∀ f s, (up l f s).reverse = (ch l f s).map (ni l)
  | 0, _ => rfl
  | _ + 1, 0 => rfl
  | f + 1, i + 1 => by
    show (ni l i :: up l f (nx l i)).reverse = (ch l f (nx l i) ++ [i]).map (ni l)
    rw [List.reverse_cons, ch_up l f (nx l i), List.map_append]; rfl
theorem app_lt {A : List Nat} {x q : Nat} (h : q < A.length) : (A ++ [x]).getD q 0 = A.getD q 0 := by
  rw [List.getD_eq_getElem?_getD, List.getElem?_append_left h, ← List.getD_eq_getElem?_getD]
theorem app_eq' {A : List Nat} {x : Nat} : (A ++ [x]).getD A.length 0 = x := by
  rw [List.getD_eq_getElem?_getD, List.getElem?_append_right (Nat.le_refl _), Nat.sub_self]; rfl
theorem ch_pth (hR : RV l) : ∀ f s, s + 1 ≤ f → s < l.length → Pth l (ch l f (s + 1)) ∧ (ch l f (s + 1)).getD ((ch l f (s + 1)).length - 1) 0 = s
  | 0, s, h, _ => by omega
  | f + 1, i, h, hi => by
    have e : ch l (f + 1) (i + 1) = ch l f (nx l i) ++ [i] := rfl
    by_cases c : i = 0
    · subst c
      have e2 : ch l f (nx l 0) = [] := by
        show ch l f 0 = []
        cases f <;> rfl
      rw [e, e2]
      exact ⟨⟨by decide, rfl, fun q hq => by
        have : q = 0 := by simp at hq; exact hq
        subst this; exact hi, fun q hq => by simp at hq⟩, rfl⟩
    · have hp := ((hR.2.2.1 i hi).2 (by omega)).1
      obtain ⟨i1, i2⟩ := ch_pth hR f (selectorBegins.pr l i) (by omega) (by omega)
      rw [e, nx_pos (show 0 < i by omega)]
      have hl : (ch l f (selectorBegins.pr l i + 1) ++ [i]).length = (ch l f (selectorBegins.pr l i + 1)).length + 1 := by rw [List.length_append]; rfl
      have hpos := i1.pos
      refine ⟨⟨by omega, by rw [app_lt hpos]; exact i1.zero, fun q hq => ?_, fun q hq => ?_⟩, by rw [hl, Nat.add_sub_cancel]; exact app_eq'⟩
      · by_cases d : q < (ch l f (selectorBegins.pr l i + 1)).length
        · rw [app_lt d]; exact i1.lt q d
        · rw [show q = (ch l f (selectorBegins.pr l i + 1)).length by omega, app_eq']; exact hi
      · by_cases d : q + 1 < (ch l f (selectorBegins.pr l i + 1)).length
        · rw [app_lt d, app_lt (show q < (ch l f (selectorBegins.pr l i + 1)).length by omega)]; exact i1.step q d
        · have hq' : q + 1 = (ch l f (selectorBegins.pr l i + 1)).length := by omega
          rw [hq', app_eq', app_lt (show q < (ch l f (selectorBegins.pr l i + 1)).length by omega), show q = (ch l f (selectorBegins.pr l i + 1)).length - 1 by omega, i2]
          exact ⟨by omega, rfl⟩
theorem inc_filter (n : Nat) : ∀ J : List Nat, J.Pairwise (· < ·) → J.filter (fun x => decide (x < n + 1)) = J.filter (fun x => decide (x < n)) ++ (if n ∈ J then [n] else [])
  | [], _ => by simp
  | a :: J, h => by
    have hJ := List.pairwise_cons.1 h
    have ih := inc_filter n J hJ.2
    rcases Nat.lt_trichotomy a n with c | c | c
    · rw [List.filter_cons_of_pos (by simp; omega), List.filter_cons_of_pos (by simp; omega), ih, List.cons_append]
      congr 2
      by_cases d : n ∈ J
      · rw [if_pos d, if_pos (List.mem_cons_of_mem _ d)]
      · rw [if_neg d, if_neg (fun x => (List.mem_cons.1 x).elim (fun y => by omega) d)]
    · subst c
      have z : ∀ m, m ≤ a + 1 → J.filter (fun x => decide (x < m)) = [] := fun m hm => List.filter_eq_nil_iff.2 fun x hx => by
        have := hJ.1 x hx
        simp; omega
      rw [List.filter_cons_of_pos (by simp), List.filter_cons_of_neg (by simp), z _ (Nat.le_refl _), z _ (by omega), if_pos (List.mem_cons_self ..)]; rfl
    · have z : ∀ m, m ≤ n + 1 → J.filter (fun x => decide (x < m)) = [] := fun m hm => List.filter_eq_nil_iff.2 fun x hx => by
        have := hJ.1 x hx
        simp; omega
      rw [List.filter_cons_of_neg (by simp; omega), List.filter_cons_of_neg (by simp; omega), z _ (Nat.le_refl _), z _ (by omega), if_neg (fun x => (List.mem_cons.1 x).elim (fun y => by omega) (fun y => by have := hJ.1 n y; omega))]; rfl
theorem toT {fid : FuncId} {args : List V} {h : H} {b : Bool} {e : Int} (hs : SemF Try.prog fid args h (fun v _ => (v = .tup [.bool b, .int .i64 e] ∨ v = .tup [.test b, .int .i64 e]) ∧ nameless v = true)) : SemF Try.prog fid args h (fun v _ => v = .tup [.test b, .int .i64 e] ∧ nameless v = true) := by
  refine ⟨fun c ν s args2 r has => ?_⟩
  obtain ⟨N, a, s', v, h', ν', q1, ⟨hv, _⟩, q3, q4, q5⟩ := hs.run c ν s args2 r has
  refine ⟨N, a, s', .tup [.test b, .int .i64 e], h', ν', q1, ⟨rfl, rfl⟩, q3, ?_, q5⟩
  rcases hv with rfl | rfl
  · simp only [Cv, Cvs] at q4 ⊢; exact q4
  · exact q4
def FK (l : Rws) (J : List Nat) : Nat → Rws
  | 0 => []
  | k + 1 => if k ∈ J then FK l J k ++ [r5 l k] else FK l J k
theorem FK_len (l : Rws) (J : List Nat) : ∀ k, (FK l J k).length ≤ k
  | 0 => Nat.le_refl 0
  | k + 1 => by
    have := FK_len l J k
    show (if k ∈ J then FK l J k ++ [r5 l k] else FK l J k).length ≤ k + 1
    split
    · rw [List.length_append]; simp; exact this
    · omega
theorem FK_eq {l : Rws} {J : List Nat} (h : J.Pairwise (· < ·)) : ∀ k, FK l J k = pick l (J.filter (fun x => decide (x < k)))
  | 0 => by
    have e : J.filter (fun x => decide (x < 0)) = [] := List.filter_eq_nil_iff.2 fun x _ => by simp
    rw [e]; rfl
  | k + 1 => by
    rw [inc_filter k J h]
    show (if k ∈ J then FK l J k ++ [r5 l k] else FK l J k) = _
    rw [FK_eq h k]
    unfold pick
    rw [List.map_append]
    by_cases c : k ∈ J
    · rw [if_pos c, if_pos c]; rfl
    · rw [if_neg c, if_neg c]; simp
theorem Pth.pair {l : Rws} {I : List Nat} (h : Pth l I) (hR : RV l) : I.Pairwise (· < ·) := by
  rw [List.pairwise_iff_getElem]
  intro i j hi hj hij
  have := h.inc hR j i hij hj
  rw [List.getD_eq_getElem?_getD, List.getD_eq_getElem?_getD, List.getElem?_eq_getElem hi, List.getElem?_eq_getElem hj] at this
  exact this
theorem Pth.mem_lt {l : Rws} {I : List Nat} (h : Pth l I) {x : Nat} (hx : x ∈ I) : x < l.length := by
  obtain ⟨q, hq, e⟩ := List.getElem_of_mem hx
  have := h.lt q hq
  rw [List.getD_eq_getElem?_getD, List.getElem?_eq_getElem hq, Option.getD_some, e] at this
  exact this
set_option maxHeartbeats 8000000 in
theorem law9 (l T : Rws) (q : Int) (hl : List.length l ≤ 9223372036854775807) (hl2 : List.length T ≤ 9223372036854775807) (hs : ∀ i, i < l.length → (nt l i).length ≤ 9223372036854775807) (hq : 0 ≤ q ∧ q ≤ 255) : SemF Try.prog 9 [.slc 0 5 0 l.length, .slc 1 4 0 T.length, .int .u8 q] ⟨2, 2, [(0, .arr [.int .i64, .int .i64, .int .i64, .int .i64, .str] .ro (.recs l)), (1, .arr [.int .i64, .int .i64, .int .i64, .bool] .ro (.recs T))]⟩ (fun v _ => IsTrue v) := by
  refine enter tt_ok Try.func9 (nt := 90) (cd := body Try.f9) rfl rfl rfl rfl ?_
  intro _
  refine head_ok rfl Try.func10 (cd := body Try.f10) rfl ?_
  intro _
  refine call_pure [(0, some 0), (1, some 1)] (usable_ok l T hl hl2 hs) rfl rfl rfl ?_ ?_ ?_
  · (repeat' first | exact trivial | exact rfl | refine And.intro ?_ ?_)
  · (repeat' first | exact trivial | exact rfl | refine And.intro ?_ ?_)
  intro v hv _
  subst hv
  intro _; refine ⟨fun g => ?_, fun g => ?_⟩
  · intro _
    show true = true
    rfl
  have g : (!decide ((l.length ≤ 40 ∧ T.length ≤ 20) ∧ RV l ∧ Tv T)) = false := g
  rw [Bool.not_eq_false'] at g
  obtain ⟨⟨h40, h20⟩, hR, hT⟩ := of_decide_eq_true g
  have n1 := hR.1.1
  have eq : IntKind.i64.wrap q = q := wrapS _ ⟨by omega, by omega⟩
  have m0 := Int.tmod_nonneg (l.length : Int) hq.1
  have m1 := Int.tmod_lt_of_pos q (show (0 : Int) < (l.length : Int) by omega)
  obtain ⟨s, es⟩ : ∃ s : Nat, q.tmod (l.length : Int) = (s : Int) := ⟨(q.tmod (l.length : Int)).toNat, by omega⟩
  have hsl : s < l.length := by omega
  have eS : (IntKind.i64.wrap q).tmod (l.length : Int) = (s : Int) := by rw [eq]; exact es
  have eI : 0 + ((IntKind.i64.wrap q).tmod (l.length : Int)).toNat = s := by rw [eS]; omega
  intro _; refine ⟨show (l.length : Int) ≠ 0 by omega, ?_⟩
  intro _; refine ⟨show 0 ≤ (IntKind.i64.wrap q).tmod (l.length : Int) ∧ (IntKind.i64.wrap q).tmod (l.length : Int) < (l.length : Int) by rw [eS]; omega, ?_⟩
  intro _; refine ⟨show 0 + ((IntKind.i64.wrap q).tmod (l.length : Int)).toNat < l.length by rw [eI]; exact hsl, ?_⟩
  obtain ⟨J, eJ⟩ : ∃ J, J = ch l (s + 1) (s + 1) := ⟨_, rfl⟩
  obtain ⟨hJ, hlast⟩ := ch_pth hR (s + 1) s (Nat.le_refl _) hsl
  rw [← eJ] at hJ hlast
  have hpos := hJ.pos
  have hP : pth l s = J.map (ni l) := by unfold pth; rw [ch_up, eJ]
  have hpair := hJ.pair hR
  have hmem : ∀ k, k < l.length → (ni l k ∈ pth l s ↔ k ∈ J) := fun k hk => by
    rw [hP, List.mem_map]
    constructor
    · rintro ⟨x, hx, e⟩
      rw [← ni_inj hR (hJ.mem_lt hx) hk e]; exact hx
    · exact fun h => ⟨k, h, rfl⟩
  have hFn : FK l J l.length = pick l J := by
    rw [FK_eq hpair, List.filter_eq_self.2 (fun x hx => decide_eq_true (hJ.mem_lt hx))]
  have hJl : J.length ≤ l.length := by
    have := FK_len l J l.length
    rw [hFn, pick_len] at this; exact this
  have lup := up_len l (s + 1) (s + 1)
  have lpt : (pth l s).length ≤ s + 1 := by unfold pth; rw [List.length_reverse]; exact lup
  intro _
  refine call_new [(0, some 0)] (path_ok l s hsl hR hs) rfl rfl rfl rfl ?_ ?_ ?_
  · (repeat' first | exact trivial | exact rfl | refine And.intro ?_ ?_)
  · (repeat' first | exact trivial | exact rfl | refine And.intro ?_ ?_)
    show ni l s = ni l (0 + ((IntKind.i64.wrap q).tmod (l.length : Int)).toNat)
    rw [eI]
  intro v h' hv
  obtain ⟨rfl, rfl⟩ := hv
  refine ⟨[(2, some 1)], 3, [(2, .arr [.int .i64] .grow (.ints (pth l s)))], .tup [.grw 2 (pth l s).length, .int .i64 0], rfl, rfl, rfl, rfl, rfl, ?_, ?_, ?_⟩
  · (repeat' first | exact trivial | exact rfl | refine And.intro ?_ ?_)
  · (repeat' first | exact trivial | exact rfl | refine And.intro ?_ ?_)
  intro _
  refine loop2 tt_ok [12, 11] [3] 4 (fun k : { k : Nat // k ≤ l.length } => [(12, .int .i64 (k.1 : Nat)), (11, .grw 3 (FK l J k.1).length)]) (fun k => [(3, .arr [.int .i64, .int .i64, .int .i64, .int .i64, .str] .grow (.recs (FK l J k.1)))]) (fun k => l.length - k.1) ⟨0, by omega⟩ ?_
  intro _
  refine ⟨⟨th [(3, none)] 4, rfl, rfl, rfl, rfl, rfl, rfl, ?_, ?_⟩, ?_⟩
  · (repeat' first | exact trivial | exact rfl | refine And.intro ?_ ?_)
  · (repeat' first | exact trivial | exact rfl | refine And.intro ?_ ?_)
  intro ⟨k, hk⟩
  have z : 0 + k = k := Nat.zero_add k
  have lk := FK_len l J k
  intro _; refine ⟨fun g => ?_, fun g => ?_⟩
  · have hkl := of_decide_eq_true (show decide ((k : Int) < (l.length : Int)) = true from g)
    have i1 : 0 ≤ (k : Int) ∧ (k : Int) < (l.length : Int) := by omega
    have i2 : 0 + (k : Int).toNat < l.length := by omega
    intro _; refine ⟨i1, ?_⟩
    intro _; refine ⟨i2, ?_⟩
    intro _
    refine call_pure [(0, some 2)] (has_ok (pth l s) (ni l k) (by omega)) rfl rfl rfl ?_ ?_ ?_
    · (repeat' first | exact trivial | exact rfl | refine And.intro ?_ ?_)
    · (repeat' first | exact trivial | exact rfl | refine And.intro ?_ ?_)
      show ni l k = ni l (0 + k)
      rw [z]
    intro v hv _
    subst hv
    intro _; refine ⟨fun g => ?_, fun g => ?_⟩
    · have g : k ∈ J := (hmem k (by omega)).1 (of_decide_eq_true g)
      have e1 : FK l J (k + 1) = FK l J k ++ [r5 l k] := if_pos g
      intro _; refine ⟨i1, ?_⟩
      intro _; refine ⟨i2, ?_⟩
      intro _; refine ⟨rfl, ?_⟩
      intro _; refine ⟨fun g3 => by simp at g3, fun _ => ?_⟩
      refine ⟨⟨rfl, by show (FK l J k).length + 1 ≤ _; omega, by show ((FK l J k).length + 1) * 48 ≤ _; omega⟩, ?_⟩
      refine ⟨⟨k + 1, by omega⟩, by show l.length - (k + 1) < l.length - k; omega, th [(3, some 5)] 4, rfl, rfl, rfl, rfl, rfl, rfl, ?_, ?_⟩
      · (repeat' first | exact trivial | exact rfl | refine And.intro ?_ ?_)
        · exact (wrap_nat k (by omega)).symm
        · show (FK l J (k + 1)).length = (FK l J k).length + 1
          rw [e1, List.length_append]; rfl
      · (repeat' first | exact trivial | exact rfl | refine And.intro ?_ ?_)
        show FK l J (k + 1) = FK l J k ++ [r5 l (0 + k)]
        rw [e1, z]
    · have g : ¬ k ∈ J := fun h => of_decide_eq_false g ((hmem k (by omega)).2 h)
      have e1 : FK l J (k + 1) = FK l J k := if_neg g
      refine ⟨⟨k + 1, by omega⟩, by show l.length - (k + 1) < l.length - k; omega, th [] 4, rfl, rfl, rfl, rfl, rfl, rfl, ?_, ?_⟩
      · (repeat' first | exact trivial | exact rfl | refine And.intro ?_ ?_)
        · exact (wrap_nat k (by omega)).symm
        · show (FK l J (k + 1)).length = (FK l J k).length
          rw [e1]
      · (repeat' first | exact trivial | exact rfl | refine And.intro ?_ ?_)
        exact e1
  have hkl := of_decide_eq_false (show decide ((k : Int) < (l.length : Int)) = false from g)
  obtain rfl : k = l.length := by omega
  have hRJ := hJ.rv hR (by omega)
  have hsJ : ∀ i, i < (pick l J).length → (nt (pick l J) i).length ≤ 9223372036854775807 := fun i hi => by
    rw [pick_len] at hi
    rw [pick_nt hi]; exact hs _ (hJ.lt i hi)
  have hid : ni (pick l J) (J.length - 1) = ni l s := by rw [pick_ni (by omega), hlast]
  have hbit : mt (pick l J) T (J.length - 1) = mt l T s := by
    unfold selectorBegins.mt
    rw [(hJ.om hR T (J.length - 1) (by omega)).1, hlast]
  intro _
  refine call_pure [(0, some 0), (1, some 1)] (toT (match_ok l T hR hT hs s hsl)) rfl rfl rfl ?_ ?_ ?_
  · (repeat' first | exact trivial | exact rfl | refine And.intro ?_ ?_)
  · (repeat' first | exact trivial | exact rfl | refine And.intro ?_ ?_)
    show ni l s = ni l (0 + ((IntKind.i64.wrap q).tmod (l.length : Int)).toNat)
    rw [eI]
  intro v hv _
  subst hv
  intro _
  refine call_pure [(0, some 3), (1, some 1)] (toT (match_ok (pick l J) T hRJ hT hsJ (J.length - 1) (by rw [pick_len]; omega))) rfl rfl rfl ?_ ?_ ?_
  · (repeat' first | exact trivial | exact rfl | refine And.intro ?_ ?_)
    exact hFn.symm
  · (repeat' first | exact trivial | exact rfl | refine And.intro ?_ ?_)
    · show (pick l J).length = (FK l J l.length).length
      rw [hFn]
    · show ni (pick l J) (J.length - 1) = ni l (0 + ((IntKind.i64.wrap q).tmod (l.length : Int)).toNat)
      rw [eI, hid]
  intro v hv _
  subst hv
  intro _; refine ⟨fun _ => ?_, fun g => absurd g (by first | decide | simp)⟩
  intro _; refine ⟨fun _ => ?_, fun g => absurd g (by first | decide | simp)⟩
  intro _; refine ⟨fun _ => ?_, fun g => absurd g (by first | decide | simp)⟩
  intro _
  show (mt l T s == mt (pick l J) T (J.length - 1)) = true
  rw [hbit]; simp

theorem walk (w : World) (v_q0 : Value) (s_q0 : Src) (q0 : List (List Go.Vm2.D)) (cap_q0 : Nat) (hk_q0 : s_q0.ks = [.int .i64, .int .i64, .int .i64, .int .i64, .str]) (ha_q0 : s_q0.ac = .recs q0) (hs_q0 : s_q0.lies w) (hn_q0 : s_q0.at_ = none → q0.length = 0) (hc_q0 : q0.length ≤ cap_q0) (hv_q0 : v_q0 = s_q0.val cap_q0) (hm_q0 : q0.length ≤ maxLen) (w_q0 : ∀ n ∈ q0, rowWf [.int .i64, .int .i64, .int .i64, .int .i64, .str] n) (v_k0 : Value) (s_k0 : Src) (k0 : List (List Go.Vm2.D)) (cap_k0 : Nat) (hk_k0 : s_k0.ks = [.int .i64, .int .i64, .int .i64, .bool]) (ha_k0 : s_k0.ac = .recs k0) (hs_k0 : s_k0.lies w) (hn_k0 : s_k0.at_ = none → k0.length = 0) (hc_k0 : k0.length ≤ cap_k0) (hv_k0 : v_k0 = s_k0.val cap_k0) (hm_k0 : k0.length ≤ maxLen) (w_k0 : ∀ n ∈ k0, rowWf [.int .i64, .int .i64, .int .i64, .bool] n) (w0 : Int) (w_w0 : (Lit.int .u8 w0).wf = true) :
    Calls Try.prog 9 #[v_q0, v_k0, .int .u8 w0] w fun e w' => e = .returned (.bool true) ∧ Below w.heap.size w w' := by
  obtain ⟨at_q0, ks_q0, ac_q0⟩ := s_q0
  simp only [] at hk_q0 ha_q0
  subst hk_q0 ha_q0
  have h_q0 : q0.length ≤ 9223372036854775807 := by unfold maxLen at hm_q0; omega
  obtain ⟨at_k0, ks_k0, ac_k0⟩ := s_k0
  simp only [] at hk_k0 ha_k0
  subst hk_k0 ha_k0
  have h_k0 : k0.length ≤ 9223372036854775807 := by unfold maxLen at hm_k0; omega
  have b_w0 := w_w0
  simp [Lit.wf, IntKind.min, IntKind.max, IntKind.signed, IntKind.bits] at b_w0
  exact top_run (by kernel_rfl) (by kernel_rfl) (T := [10]) (fun f hf w => by
      rcases List.mem_cons.1 hf with e | e
      · subst e; exact head w
      · exact (List.not_mem_nil e).elim) (l := [⟨at_q0, [.int .i64, .int .i64, .int .i64, .int .i64, .str], .recs q0⟩, ⟨at_k0, [.int .i64, .int .i64, .int .i64, .bool], .recs k0⟩]) (args := [.slc 0 5 0 q0.length, .slc 1 4 0 k0.length, .int .u8 w0]) («as» := [Src.av 0 cap_q0 ⟨at_q0, [.int .i64, .int .i64, .int .i64, .int .i64, .str], .recs q0⟩, Src.av 1 cap_k0 ⟨at_k0, [.int .i64, .int .i64, .int .i64, .bool], .recs k0⟩, .int .u8 w0]) (cargs := [v_q0, v_k0, .int .u8 w0]) w
    (fun s h => by
      rcases List.mem_cons.1 h with e | h
      · subst e; exact hs_q0
      · rcases List.mem_cons.1 h with e | h
        · subst e; exact hs_k0
        · exact (List.not_mem_nil h).elim)
    (Cvs.cons (src_cv (s := ⟨at_q0, [.int .i64, .int .i64, .int .i64, .int .i64, .str], .recs q0⟩) rfl 5 hc_q0 hn_q0) (Cvs.cons (src_cv (s := ⟨at_k0, [.int .i64, .int .i64, .int .i64, .bool], .recs k0⟩) rfl 4 hc_k0 hn_k0) (Cvs.cons mk_int Cvs.nil)))
    (by simp only [Go.Vm.convs, Go.Vm.conv]; rw [src_conv (j := 0) (s := ⟨at_q0, [.int .i64, .int .i64, .int .i64, .int .i64, .str], .recs q0⟩) rfl, src_conv (j := 1) (s := ⟨at_k0, [.int .i64, .int .i64, .int .i64, .bool], .recs k0⟩) rfl, hv_q0, hv_k0])
    (law9 q0 k0 w0 h_q0 h_k0 (ntw w_q0) (by omega))

set_option maxRecDepth 100000 in
theorem lifted (os : Os) (started : os.Started) (H : Type) (enc : TypeId × Value → H) :
    ReturnsInHanded {} Try.checked os 9 .any (Rows.selectorPathsSpec.pre6 enc Try.prog Try.f9 Rows.selectorPathsRow.domain false) (Rows.selectorPathsSpec.post enc Try.prog Try.f9 false true false false) := by
  refine returnsInHanded_of_change (C := Try.checked) own started (by kernel_rfl) Try.func9
    (ChangeSpec.witness6 (enc := enc) (C := Try.checked) false ⟨#[], #[.slice none 0 0, .slice none 0 0, .int .u8 0], []⟩ 8 (by kernel_rfl) (by kernel_rfl) (by kernel_rfl) (by kernel_rfl)) ?_
  intro W base args ds gs before hval0 hW hcnd _
  have hval : ∀ (j : Nat) t v, Try.f9.params[j]? = some t → args[j]? = some v → Value.okWide Try.prog W .any base t v := hval0
  have hW' := hW
  obtain ⟨p, q, hA0, hV, rfl, hfz, hnd⟩ := hW
  have hA : DataW.TrodAll enc Try.prog W 0 (fun _ => true) true Try.f9.params.toList args.toList ds p := hA0
  rw [Try.params9] at hA hval
  obtain ⟨v0, vs0, d0, ds0, p0, q0, hargs, rfl, rfl, h0, r0⟩ := trodAll_cons hA
  obtain ⟨v1, vs1, d1, ds1, p1, q1, rfl, rfl, rfl, h1, r1⟩ := trodAll_cons r0
  obtain ⟨v2, vs2, d2, ds2, p2, q2, rfl, rfl, rfl, h2, r2⟩ := trodAll_cons r1
  obtain ⟨rfl, rfl, rfl⟩ := trodAll_nil r2
  obtain rfl : args = #[v0, v1, v2] := by cases args; simp_all
  obtain ⟨rfl, rfl⟩ := trodVars_none hV
  obtain ⟨s_q0, q0, cap_q0, hk_q0, ha_q0, hs_q0, hn_q0, hc_q0, hv_q0, hm_q0, w_q0⟩ := Go.Vm2.open_recs (ks := [.int .i64, .int .i64, .int .i64, .int .i64, .str]) Try.underlying22 Try.underlying38 (by kernel_rfl) (by simp) (by kernel_rfl) (hval 0 22 v0 rfl rfl) h0
  have hlt0 : ∀ x ∈ p0, x.block < W.heap.size := fun x hx => by simpa using hW'.lt x (by simp [hx])
  obtain ⟨s_k0, k0, cap_k0, hk_k0, ha_k0, hs_k0, hn_k0, hc_k0, hv_k0, hm_k0, w_k0⟩ := Go.Vm2.open_recs (ks := [.int .i64, .int .i64, .int .i64, .bool]) Try.underlying23 Try.underlying40 (by kernel_rfl) (by simp) (by kernel_rfl) (hval 1 23 v1 rfl rfl) h1
  have hlt1 : ∀ x ∈ p1, x.block < W.heap.size := fun x hx => by simpa using hW'.lt x (by simp [hx])
  obtain ⟨w0, rfl, rfl, rfl, w_w0⟩ := open_int Try.underlying5 (hval 2 5 v2 rfl rfl) h2
  clear hA0 hval0
  refine (walk W v0 s_q0 q0 cap_q0 hk_q0 ha_q0 hs_q0 hn_q0 hc_q0 hv_q0 hm_q0 w_q0 v1 s_k0 k0 cap_k0 hk_k0 ha_k0 hs_k0 hn_k0 hc_k0 hv_k0 hm_k0 w_k0 w0 w_w0).mono fun e W' ⟨he, hg⟩ => ?_
  subst he
  exact ⟨_, rfl, _, _, _, [], _, [], hW', trodAll_cons_mk (shut_bool Try.underlying4 _) trodAll_mk0, (trodAll_cons_mk (Below.trod laidOut (by kernel_rfl) (of_decide_eq_true (by kernel_rfl)) h0 hg hlt0) (trodAll_cons_mk (Below.trod laidOut (by kernel_rfl) (of_decide_eq_true (by kernel_rfl)) h1 hg hlt1) (trodAll_cons_mk (shut_int Try.underlying5 w_w0) trodAll_mk0))), rfl, hg.frame _, fun h => by cases h⟩

theorem over : Rows.selectorPathsRow.holds Try.pinned (OpenSpec.ofChange Rows.selectorPathsSpec) :=
  OpenClaim.holds_of_wide 9 Try.f9 rfl rfl rfl rfl rfl rfl rfl ⟨rfl, rfl, rfl, rfl, rfl⟩ rfl rfl rfl rfl rfl (by kernel_rfl) Try.func9 (by kernel_rfl)
    (of_decide_eq_true (by kernel_rfl)) (by unfold Func.isWrapper; first | (rw [if_pos (by decide +kernel)]; kernel_rfl) | (rw [if_neg (by decide +kernel)]; exact ⟨rfl, rfl⟩))
    (fun os started H enc _ => lifted os started H enc)

/-- the statement -/
theorem proved : Rows.SelectorPathsSaid :=
  over
#print axioms proved
end Go.Proofs.Ytmdobpjkcheneaa.selectorPaths
